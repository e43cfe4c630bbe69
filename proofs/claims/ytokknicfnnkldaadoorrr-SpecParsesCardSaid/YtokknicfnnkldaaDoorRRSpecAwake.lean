/-
  The example that each statement of layer 5 asks first.
-/
import Derived.Test.YtokknicfnnkldaaDoorRRSpecParse
namespace Go.Proofs.YtokknicfnnkldaaDoorRR
open Go.ChangeShapes Go.WideShapes Go.ChangeAt Go.RowKit

theorem saw1 : Sp.specs (ByteArray.mk #[98, 121, 116, 101, 115, 61, 48, 45, 52, 44, 32, 45, 53]).data.toList = ([(2, 0, 4), (3, 5, 0)], 0) := by decide +kernel
theorem specs_cut {p : List (Int × Int × Int) × Int} {w w' : World} {e : Ending} (h : GivesSpecs p w e w') :
    ∃ A n c, e = .returned (.tuple #[.slice A n c, .int .i64 p.2]) ∧ Hid (Ss w' w'.heap.size A n p.1) ∧ n ≤ c ∧ Below w.heap.size w w' := h
set_option maxHeartbeats 1000000 in
theorem specAwake_yes (w : World) : Calls Tryd.prog 4 #[] w fun e w' => e = .returned (.bool true) ∧ Below w.heap.size w w' := by
  have co : ∀ W, Calls Tryd.prog 5 #[.string ⟨#[98, 121, 116, 101, 115, 61, 48, 45, 52, 44, 32, 45, 53]⟩] W (GivesSpecs ([(2, 0, 4), (3, 5, 0)], 0) W) := fun W => by
    have := specParse_any ⟨#[98, 121, 116, 101, 115, 61, 48, 45, 52, 44, 32, 45, 53]⟩ W (by decide +kernel)
    rwa [saw1] at this
  go_enter Tryd.func4, Tryd.ntmps4
  go_wp2_with (go_at_call 5; refine (co _).mono ?_; intro e w1 hg; obtain ⟨A, n, c, rfl, hv, hc, hb⟩ := specs_cut hg; clear hg; obtain rfl : n = 2 := hv.out.len.symm; obtain ⟨b1, o1, rfl, hB1, hc1⟩ := hv.out.2 (by decide); have p1 := hc1 3 (by decide); have p2 := (congrArg (fun j => w1.cell? ⟨b1, j, none⟩) (Nat.add_assoc o1 3 1)).trans (hc1 4 (by decide)); have p3 := (congrArg (fun j => w1.cell? ⟨b1, j, none⟩) (Nat.add_assoc o1 3 2)).trans (hc1 5 (by decide)); change _ = some (Value.int .i64 3) at p1; change _ = some (Value.int .i64 5) at p2; change _ = some (Value.int .i64 0) at p3; clear hc1)
  go_ret
  exact ⟨rfl, hb⟩
end Go.Proofs.YtokknicfnnkldaaDoorRR
