/-
  make of bytes: a block of noughts of the call's own; a copy into it.
-/
import Derived.Test.YtidjajdgphkbbaaRRChecked
import Derived.Test.YtidjajdgphkbbaaRRBytes
import Derived.Laws.CopyOwn
import Derived.Laws.MakeOwn
namespace Go.Proofs.YtidjajdgphkbbaaRR
open Go.ChangeShapes Go.WideShapes Go.ChangeAt Go.RowKit

theorem u8_info : (Try.prog.info? 5).map (fun i => (i.zero, i.size, i.bytes)) = some (some (.int .u8 0), 1, 1) := by kernel_rfl

theorem made_vals (n : Nat) : madeCells (Value.int .u8 0).cells n = (vals (List.replicate n 0)).toArray := by
  apply Array.toList_inj.1
  have h : (Value.int IntKind.u8 0).cells = #[.int .u8 0] := rfl
  rw [h, toList_madeCells_one]
  simp [vals]

/-- make([]byte, n): a block of noughts of the call's own -/
theorem make_bytes (n : Nat) (hn : n ≤ 281474976710656) (w : World) :
    (Instr.makeSlice 22 (.int .i64 (n : Int)) (.int .i64 (n : Int))).run Try.prog w = .ok (.slice (some ⟨w.heap.size, 0, none⟩) n n) (w.alloc (.cells (vals (List.replicate n 0)).toArray 5)) := by
  obtain ⟨i, hi, hz, hs, hb⟩ := info_parts u8_info
  have h := run_make (P := Try.prog) w 22 5 i (.int .u8 0) Try.underlying22 hi hz .i64 .i64 n n (by omega) (Int.le_refl _) (by rw [hb]; omega) (by omega)
  simp only [Int.toNat_natCast, hs, Nat.mul_one] at h
  rw [h, made_vals]

theorem u8_one : (Try.prog.info? 5).map (·.size) = some 1 := by kernel_rfl
theorem splice_vals (Z l : List UInt8) : splice (vals Z) 0 (vals l) = vals (l ++ Z.drop l.length) := by simp [splice, vals]
end Go.Proofs.YtidjajdgphkbbaaRR
