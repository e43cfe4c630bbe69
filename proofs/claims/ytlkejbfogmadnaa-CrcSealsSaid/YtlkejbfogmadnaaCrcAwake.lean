/-
  The example that each statement of layer 2 asks first.
-/
import Derived.Test.YtlkejbfogmadnaaCrcMany
import Derived.Lib.SlBytesConst
namespace Go.Proofs.Ytlkejbfogmadnaa
open Go.ChangeShapes Go.WideShapes Go.ChangeAt Go.RowKit

def nine : List UInt8 := [49, 50, 51, 52, 53, 54, 55, 56, 57]
theorem nine_sum : Cm.sum nine = 3421780262 := by decide +kernel

theorem crcAwake_yes (w : World) : Calls Try.prog 6 #[] w fun e w' => e = .returned (.bool true) ∧ Below w.heap.size w w' := by
  have kc := fun (w : World) (C : Array Value) (n c : Nat) => Lib.run_convert_bytes_const (P := Try.prog) w 22 5 C n c Try.underlying22 Try.underlying5
  go_enter Try.func6, Try.ntmps6
  go_wp2_with fail
  have hb : Bs (w.alloc (.cells #[.int .u8 49, .int .u8 50, .int .u8 51, .int .u8 52, .int .u8 53, .int .u8 54, .int .u8 55, .int .u8 56, .int .u8 57] 5 (9, 10))) (w.heap.size + 1) (some ⟨w.heap.size, 0, none⟩) 9 nine := by
    refine ⟨rfl, fun _ => ⟨w.heap.size, 0, rfl, by omega, fun j hj => ?_⟩⟩
    rw [cell_of_row _ w.heap.size (0 + j) _ 5 (9, 10) (heap_alloc_new w _)]
    match j, hj with
    | 0, _ => rfl
    | 1, _ => rfl
    | 2, _ => rfl
    | 3, _ => rfl
    | 4, _ => rfl
    | 5, _ => rfl
    | 6, _ => rfl
    | 7, _ => rfl
    | 8, _ => rfl
  have cs := sum_any (some ⟨w.heap.size, 0, none⟩) 9 9 nine _ _ hb (by omega)
  rw [nine_sum] at cs
  clear hb kc
  refine cs.mono ?_
  rintro e w' ⟨rfl, rfl⟩
  clear cs
  go_wp2
  go_ret
  exact ⟨rfl, (Below.refl _ _).alloc (Nat.le_refl _) _⟩
end Go.Proofs.Ytlkejbfogmadnaa
