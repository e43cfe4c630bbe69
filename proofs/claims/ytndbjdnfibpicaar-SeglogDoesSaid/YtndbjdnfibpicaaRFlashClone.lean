/-
  slices.Clone: of bytes, of places.
-/
import Derived.Test.YtndbjdnfibpicaaRMMany
import Derived.Test.YtndbjdnfibpicaaRMBytes
import Derived.Outline
import Derived.Lib.Hide
import Derived.OwnWalk
namespace Go.Proofs.YtndbjdnfibpicaaR
open Go.ChangeShapes Go.WideShapes Go.ChangeAt Go.RowKit Fl
set_option maxRecDepth 100000

theorem addr_info : (Try.prog.info? 51).map (fun i => (i.zero, i.size, i.bytes)) = some (some (.agg #[.int .i64 0, .int .i64 0]), 2, 16) := by kernel_rfl
theorem page_info : (Try.prog.info? 93).map (fun i => (i.zero, i.size, i.bytes)) = some (some (.agg #[.int .i64 0, .int .i64 0, .slice none 0 0, .bool false]), 4, 48) := by kernel_rfl

theorem bytesNil (A : Option Addr) (n c : Nat) (w : World) : (binOp BinOp.eql 54 (.slice A n c) (.slice none 0 0)).run Try.prog w = .ok (.bool A.isNone) w := by
  cases A <;> kernel_rfl
theorem addrsNil (A : Option Addr) (n c : Nat) (w : World) : (binOp BinOp.eql 58 (.slice A n c) (.slice none 0 0)).run Try.prog w = .ok (.bool A.isNone) w := by
  cases A <;> kernel_rfl
theorem mapNil (A : Option Nat) (w : World) : (binOp BinOp.neq 57 (.map A) (.map none)).run Try.prog w = .ok (.bool A.isSome) w := by
  cases A <;> kernel_rfl
theorem devNil (A : Option Addr) (w : World) : (binOp BinOp.neq 28 (.pointer A) (.pointer none)).run Try.prog w = .ok (.bool A.isSome) w := by
  cases A <;> kernel_rfl
theorem devNil2 (A : Option Addr) (w : World) : (binOp BinOp.eql 28 (.pointer A) (.pointer none)).run Try.prog w = .ok (.bool A.isNone) w := by
  cases A <;> kernel_rfl

/-- bytes of their own, all that is new -/
def CloneTo (l : List UInt8) (w : World) (e : Ending) (w' : World) : Prop :=
  ∃ A c, e = .returned (.slice A l.length c) ∧ l.length ≤ c ∧ Bs w' w'.heap.size A l.length l ∧ (A = none → c = 0) ∧ (∀ a, A = some a → w.heap.size ≤ a.block) ∧ Below w.heap.size w w'
theorem cloneBytes_nil (w : World) : Calls Try.prog 83 #[.slice none 0 0] w fun e w' => e = .returned (.slice none 0 0) ∧ w' = w := by
  have hq := bytesNil
  go_enter Try.func83, Try.ntmps83
  go_wp2
  go_ret
  exact ⟨rfl, rfl⟩
theorem cloneBytes_some (ad : Addr) (n c B : Nat) (l : List UInt8) (w : World) (h : Bs w B (some ad) n l) (hB : B ≤ w.heap.size) (hn : n ≤ 100000) :
    Calls Try.prog 83 #[.slice (some ad) n c] w (CloneTo l w) := by
  obtain ⟨i0, hi, hz, hsz, hby⟩ := info_parts u8_info
  have HI := Lib.hid hi
  have HZ := Lib.hid hz
  have HSZ := Lib.hid hsz
  have HBY := Lib.hid hby
  clear hi hz hsz hby
  have HS := Lib.hid h
  have HL : Hid (l.length = n) := Lib.hid h.1
  clear h
  have hq := bytesNil
  go_enter Try.func83, Try.ntmps83
  go_wp2_with (at_builtin; refine wpList_append_bytes (o := ⟨some 7, _, _, _, _, _⟩) rfl (.tmp 5) (.tmp 6) 54 rfl w.heap.size 5 i0 Try.underlying54 HI.out HZ.out HSZ.out HBY.out _ 0 [] rfl (World.ownsRow_lit (base := w.heap.size) (e := 5) (size := 1) w #[] 0 (Nat.le_refl _) (by simp) rfl) B (some ad) n c l rfl (HS.out.below ((Below.refl B w).alloc hB _)) (by omega) (by simp) ?_; intro v' w' HO HG)
  go_ret
  have ho := HO.out
  rw [Nat.zero_add, List.nil_append] at ho
  obtain ⟨A, cap, rfl, hbs, hc⟩ := own_bs ho
  have hl := HL.out
  subst hl
  have hb : Below w.heap.size w w' := ((Below.refl _ _).alloc (Nat.le_refl _) _).grown HG.out (by simp) (fun q hq => by injection hq with hq; exact Nat.le_of_eq hq)
  refine ⟨A, cap, rfl, hc, hbs, fun e => ?_, fun a ha => ?_, hb⟩
  · subst e
    rcases ho.2 with ⟨h1, _⟩ | ⟨_, _, _, h1, _⟩
    · injection h1
    · injection h1 with h1
      cases h1
  · subst ha
    exact (ho.lt _ rfl).1
theorem cloneBytes_any {x : Value} {l : List UInt8} {w : World} (h : Sl w x l) (hn : l.length ≤ 100000) : Calls Try.prog 83 #[x] w (CloneTo l w) := by
  obtain ⟨A, c, rfl, hc, hb, hno⟩ := h
  cases A with
  | none =>
    obtain rfl : c = 0 := hno rfl
    obtain rfl : l = [] := List.eq_nil_of_length_eq_zero (by omega)
    refine (cloneBytes_nil w).mono ?_
    rintro e w' ⟨rfl, rfl⟩
    exact ⟨none, 0, rfl, Nat.le_refl _, Bs.nil _ _ _, fun _ => rfl, fun _ ha => (nomatch ha), Below.refl _ _⟩
  | some ad => exact cloneBytes_some ad _ c _ l w hb (Nat.le_refl _) hn

end Go.Proofs.YtndbjdnfibpicaaR
