/-
  The example that each statement of layer 3 asks first.
-/
import Derived.Test.YtgldgmmljigmdaaTextList
namespace Go.Proofs.Ytgldgmmljigmdaa
open Go.ChangeShapes Go.WideShapes Go.ChangeAt Go.RowKit

theorem aw1 : Tx.listed (ByteArray.mk #[97, 32, 44, 44, 32, 98]).data.toList = true := by decide +kernel
theorem aw2 : Tx.elems (ByteArray.mk #[97, 32, 44, 44, 32, 98]).data.toList = [[97], [98]] := by decide +kernel
theorem aw3 : Tx.listed (ByteArray.mk #[32, 97]).data.toList = false := by decide +kernel

set_option maxHeartbeats 2000000 in
theorem textAwake_yes (w : World) : Calls Try.prog 6 #[] w fun e w' => e = .returned (.bool true) ∧ Below w.heap.size w w' := by
  have c1 : ∀ W, Calls Try.prog 18 #[.string ⟨#[97, 32, 44, 44, 32, 98]⟩] W (Gives [[97], [98]] true W) := fun W => by
    have := list_yes ⟨#[97, 32, 44, 44, 32, 98]⟩ W (by decide +kernel) aw1
    rwa [aw2] at this
  have c2 : ∀ W, Calls Try.prog 18 #[.string ⟨#[32, 97]⟩] W (Gives [] false W) := fun W => list_no ⟨#[32, 97]⟩ W (by decide +kernel) aw3
  go_enter Try.func6, Try.ntmps6
  go_wp2_with (first
    | (go_at_call 18; (first | ((with_reducible refine (c1 _).mono ?_); rintro e w1 ⟨A, n, c, rfl, hv, hnc, hb⟩; obtain rfl : n = 2 := hv.1.symm; replace hv := Lib.hid hv) | ((with_reducible refine (c2 _).mono ?_); rintro e w2 ⟨A2, n2, c2', rfl, hv2, hnc2, hb2⟩; have hv3 := Lib.hid (((hv.out.below hb2).alloc hb2.size (.cells #[.string ⟨#[97]⟩, .string ⟨#[98]⟩] 9)).mono (B' := w2.heap.size + 1) (Nat.le_succ_of_le hb2.size)); clear hv2)))
    | (go_at_call 21; refine (texts_same A (some ⟨w2.heap.size, 0, none⟩) 2 c 2 (w2.heap.size + 1) [[97], [98]] _ hv3.out (Vs.new w2 9 (0, 0) #[.string ⟨#[97]⟩, .string ⟨#[98]⟩]) (by omega)).mono ?_; rintro e w3 ⟨rfl, m, rfl⟩))
  go_ret
  exact ⟨rfl, below_drewN ((hb.trans (hb2.mono hb.size)).alloc (Nat.le_trans hb.size hb2.size) _) _⟩
end Go.Proofs.Ytgldgmmljigmdaa
