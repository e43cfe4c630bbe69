/-
  The statement on one map, where the list is longer than it asks of.
-/
import Derived.Test.YtgfafcolfcdkdaaDoorBitTwoW
import Derived.Test.YtgfafcolfcdkdaaDoorIts
import Derived.ControlIn
namespace Go.Proofs.YtgfafcolfcdkdaaDoor
open Go.ChangeShapes Go.WideShapes Go.ChangeAt Go.RowKit Go.Shelf
set_option maxRecDepth 100000
attribute [local go_sem] Oper.semAt_some

theorem res_tellsL {U : World} {tm : Array Value} {b : Nat} {v : Bool} (h4 : tm.getD 6 undef = .pointer (some ⟨b, 0, none⟩)) (hc : U.cell? ⟨b, 0, none⟩ = some (.bool v)) : (results Tryd.f3 tm).run Tryd.prog U = .ok (.bool v) U := by
  have h5 : tm[6]?.getD undef = .pointer (some ⟨b, 0, none⟩) := by simpa using h4
  simp [results, Tryd.results3, h5, go_sem, hc, asAddr, loadVar]
theorem tells_long {A : Option Addr} {n c : Nat} {i stop : Int} {w : World} (h : 60 < n) (ka : ∀ W, Below w.heap.size w W → Calls Tryd.prog 6 #[] W fun e w' => e = .returned (.bool true) ∧ Below W.heap.size W w') :
    Calls Tryd.prog 3 #[.slice A n c, .int .i64 i, .int .i64 stop] w fun e w' => e = .returned (.bool true) ∧ Below w.heap.size w w' := by
  have d1 : decide ((60 : Int) < (n : Int)) = true := decide_eq_true (by omega)
  have HKA := Lib.hid ka
  have hb0 : Below w.heap.size w ((w.alloc (.cells #[.int .i64 stop] 3)).alloc (.cells #[.bool false] 4)) := ((Below.refl _ w).alloc (Nat.le_refl _) _).alloc (by simp) _
  have HB0 := Lib.hid hb0
  have hqr := Boxed.new (w.alloc (.cells #[.int .i64 stop] 3)) 4 (.bool false)
  rw [World.size_alloc] at hqr
  have HQR := Lib.hid hqr
  have HZ0 : Hid (((w.alloc (.cells #[.int .i64 stop] 3)).alloc (.cells #[.bool false] 4)).heap.size = w.heap.size + 2) := Lib.hid (by simp)
  clear ka h hb0 hqr
  refine (callsIn_wide (n := 30)).1 ?_
  refine callsIn_of_wp_marks Tryd.func3 rfl trivial ?_ rfl
  simp only [Tryd.ntmps3, List.size_toArray, List.length_cons, List.length_nil, Nat.reduceAdd, Nat.reduceSub, Array.replicate_succ, Array.replicate_zero, List.push_toArray, List.append_toArray, List.nil_append, List.cons_append]
  refine (wpIn_wide (n := 30)).2 ?_
  go_wp2_with (go_at_call 6; (with_reducible refine (HKA.out _ HB0.out).mono ?_); rintro e w1 ⟨rfl, hb1⟩; have HB1 := Lib.hid (HB0.out.trans (hb1.mono (by rw [HZ0.out]; omega))); have HQR1 := Lib.hid (show Boxed w1 (w.heap.size + 1) 4 (.bool false) from (hb1.block _ (by rw [HZ0.out]; omega)).trans HQR.out); have cR := HQR1.out.cell; have fR := HQR1.out.frozen; clear hb1)
  have hc := (Boxed.set (.bool true) HQR1.out).cell
  have hb : Below w.heap.size w (w1.setCell ⟨w.heap.size + 1, 0, none⟩ (.bool true)) := HB1.out.setCell (p := ⟨w.heap.size + 1, 0, none⟩) (by dsimp only; omega) _
  exact ⟨_, res_tellsL rfl hc, rfl, hb⟩
end Go.Proofs.YtgfafcolfcdkdaaDoor
