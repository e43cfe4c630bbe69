/-
  Places, binds held against each other.
-/
import Derived.Test.YtcmhodimkpkmbaaDoorIxSlot
import Derived.Laws.StructEq
import Derived.Stop.BytesEq
namespace Go.Proofs.YtcmhodimkpkmbaaDoor
open Go.ChangeShapes Go.WideShapes Go.ChangeAt Go.RowKit
set_option maxRecDepth 100000

theorem ad_fields : Tryd.prog.underlying 30 = some (.struct (Tryd.prog.fieldsOf 30)) := by kernel_rfl
theorem ad_held : Tryd.prog.stoodInHeld 30 = false := by kernel_rfl
theorem bd_fields : Tryd.prog.underlying 25 = some (.struct (Tryd.prog.fieldsOf 25)) := by kernel_rfl
theorem bd_held : Tryd.prog.stoodInHeld 25 = false := by kernel_rfl
def adB (a b : Ix.Ad) : Bool := a.1 == b.1 && a.2 == b.2
def bdB (a b : Ix.Bd) : Bool := a.obj == b.obj && a.gen == b.gen && (a.tag.toList == b.tag.toList) && a.len == b.len && a.tick == b.tick
theorem adB_iff {a b : Ix.Ad} : adB a b = true ↔ a = b := by
  obtain ⟨a1, a2⟩ := a
  obtain ⟨b1, b2⟩ := b
  simp [adB]
theorem bytes_iff {a b : ByteArray} : (a.toList == b.toList) = true ↔ a = b := by
  constructor
  · intro h
    by_cases e : a = b
    · exact e
    · rw [bytes_ne e] at h
      cases h
  · rintro rfl
    simp
theorem bdB_iff {a b : Ix.Bd} : bdB a b = true ↔ a = b := by
  obtain ⟨a1, a2, a3, a4, a5⟩ := a
  obtain ⟨b1, b2, b3, b4, b5⟩ := b
  unfold bdB
  simp only [Bool.and_eq_true, beq_iff_eq, Ix.Bd.mk.injEq, and_assoc]
  rw [← bytes_iff (a := a3) (b := b3), beq_iff_eq]
theorem ad_equalIn (d : Nat) (a b : Ix.Ad) (W : World) : (Op.equalIn (d + 3) 30 (adV a) (adV b)).run Tryd.prog W = .ok (adB a b) W := by
  rw [run_equalIn_struct W (d + 2) 30 _ _ ad_fields ad_held]
  obtain ⟨a1, a2⟩ := a
  obtain ⟨b1, b2⟩ := b
  simp only [Program.fieldsOf, Tryd.underlying30, Op.eqFields]
  have e1 := run_equalIn_int W (d + 1) 3 .i64 .i64 a1 b1 Tryd.underlying3
  have e2 := run_equalIn_int W (d + 1) 3 .i64 .i64 a2 b2 Tryd.underlying3
  unfold adB
  dsimp only
  cases h1 : a1 == b1 <;> cases h2 : a2 == b2 <;> simp [part, isAgg, run_underlying Tryd.underlying3, e1, e2, h1, h2]
theorem ad_eql (a b : Ix.Ad) (W : World) : (binOp BinOp.eql 30 (adV a) (adV b)).run Tryd.prog W = .ok (.bool (adB a b)) W := by
  rw [run_eql_struct, ad_equalIn 9997 a b W]
  rfl
theorem ad_neq (a b : Ix.Ad) (W : World) : (binOp BinOp.neq 30 (adV a) (adV b)).run Tryd.prog W = .ok (.bool (!adB a b)) W := by
  rw [run_neq_struct, ad_equalIn 9997 a b W]
  rfl
theorem bd_equalIn (d : Nat) (a b : Ix.Bd) (W : World) : (Op.equalIn (d + 3) 25 (bdV a) (bdV b)).run Tryd.prog W = .ok (bdB a b) W := by
  rw [run_equalIn_struct W (d + 2) 25 _ _ bd_fields bd_held]
  obtain ⟨a1, a2, a3, a4, a5⟩ := a
  obtain ⟨b1, b2, b3, b4, b5⟩ := b
  simp only [Program.fieldsOf, Tryd.underlying25, Op.eqFields]
  have e1 := run_equalIn_int W (d + 1) 3 .i64 .i64 a1 b1 Tryd.underlying3
  have e2 := run_equalIn_int W (d + 1) 3 .i64 .i64 a2 b2 Tryd.underlying3
  have e3 := run_equalIn_string W (d + 1) 9 a3 b3 Tryd.underlying9
  have e4 := run_equalIn_int W (d + 1) 3 .i64 .i64 a4 b4 Tryd.underlying3
  have e5 := run_equalIn_int W (d + 1) 3 .i64 .i64 a5 b5 Tryd.underlying3
  unfold bdB
  dsimp only
  generalize (a1 == b1) = q1 at *
  generalize (a2 == b2) = q2 at *
  generalize (a3.toList == b3.toList) = q3 at *
  generalize (a4 == b4) = q4 at *
  generalize (a5 == b5) = q5 at *
  simp [part, isAgg, run_underlying Tryd.underlying3, run_underlying Tryd.underlying9, e1, e2, e3, e4, e5]
  cases q1 <;> cases q2 <;> cases q3 <;> cases q4 <;> cases q5 <;> rfl
theorem bd_eql (a b : Ix.Bd) (W : World) : (binOp BinOp.eql 25 (bdV a) (bdV b)).run Tryd.prog W = .ok (.bool (bdB a b)) W := by
  rw [run_eql_struct, bd_equalIn 9997 a b W]
  rfl
theorem bd_neq (a b : Ix.Bd) (W : World) : (binOp BinOp.neq 25 (bdV a) (bdV b)).run Tryd.prog W = .ok (.bool (!bdB a b)) W := by
  rw [run_neq_struct, bd_equalIn 9997 a b W]
  rfl
end Go.Proofs.YtcmhodimkpkmbaaDoor
