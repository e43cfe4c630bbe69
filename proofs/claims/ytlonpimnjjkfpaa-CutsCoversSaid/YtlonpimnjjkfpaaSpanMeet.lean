/-
  Contract of span.Meet: what two spans have in common.
-/
import Derived.Test.YtlonpimnjjkfpaaCutsMath
import Derived.Test.YtlonpimnjjkfpaaDuo
import Derived.Lib.Hide
import Derived.IntWalk
namespace Go.Proofs.Ytlonpimnjjkfpaa
open Go.ChangeShapes Go.WideShapes Go.ChangeAt Go.RowKit

theorem Duo.fourth (w : World) (o o2 o3 : Obj) (a b : Value) (t : TypeId) : Duo ((((w.alloc o).alloc o2).alloc o3).alloc (.cells #[a, b] t)) (w.heap.size + 1 + 1 + 1) a b := by
  have := Duo.third (w.alloc o) o2 o3 a b t
  rwa [show (w.alloc o).heap.size = w.heap.size + 1 by simp] at this
/-- whether it is there, as the three looks come out -/
def Cu.three (p q r : Bool) : Bool := p && q && r
set_option maxHeartbeats 2000000 in
theorem spanMeet_walk (a b c d x y : Int) (p q r : Bool) (w : World) (hx : (a < c ∧ x = c) ∨ (c ≤ a ∧ x = a)) (hy : (d < b ∧ y = d) ∨ (b ≤ d ∧ y = b))
    (ca : ∀ W, Calls Try.prog 21 #[.agg #[.int .i64 a, .int .i64 b]] W fun e w' => e = .returned (.bool p) ∧ Below W.heap.size W w')
    (cb : ∀ W, Calls Try.prog 21 #[.agg #[.int .i64 c, .int .i64 d]] W fun e w' => e = .returned (.bool q) ∧ Below W.heap.size W w')
    (cc : ∀ W, Calls Try.prog 21 #[.agg #[.int .i64 x, .int .i64 y]] W fun e w' => e = .returned (.bool r) ∧ Below W.heap.size W w') :
    Calls Try.prog 20 #[.agg #[.int .i64 a, .int .i64 b], .agg #[.int .i64 c, .int .i64 d]] w fun e w' =>
      e = .returned (.tuple #[.agg #[.int .i64 (bif Cu.three p q r then x else 0), .int .i64 (bif Cu.three p q r then y else 0)], .bool (Cu.three p q r)]) ∧ Below w.heap.size w w' := by
  have HB := Lib.hid ((below_new3 w (.cells #[.int .i64 a, .int .i64 b] 23) (.cells #[.int .i64 c, .int .i64 d] 23) (.cells #[.int .i64 0, .int .i64 0] 23)).alloc (below_new3 w _ _ _).size (.cells #[.int .i64 x, .int .i64 y] 23))
  have D2 := Lib.hid (((Duo.second w (.cells #[.int .i64 a, .int .i64 b] 23) (.int .i64 c) (.int .i64 d) 23).alloc (.cells #[.int .i64 0, .int .i64 0] 23)).alloc (.cells #[.int .i64 x, .int .i64 y] 23))
  have D3 := Lib.hid ((Duo.third w (.cells #[.int .i64 a, .int .i64 b] 23) (.cells #[.int .i64 c, .int .i64 d] 23) (.int .i64 0) (.int .i64 0) 23).alloc (.cells #[.int .i64 x, .int .i64 y] 23))
  have D4 := Lib.hid (Duo.fourth w (.cells #[.int .i64 a, .int .i64 b] 23) (.cells #[.int .i64 c, .int .i64 d] 23) (.cells #[.int .i64 0, .int .i64 0] 23) (.int .i64 x) (.int .i64 y) 23)
  rcases (show p = false ∨ (p = true ∧ q = false) ∨ (p = true ∧ q = true ∧ r = false) ∨ (p = true ∧ q = true ∧ r = true) by cases p <;> cases q <;> cases r <;> simp) with rfl | ⟨rfl, rfl⟩ | ⟨rfl, rfl, rfl⟩ | ⟨rfl, rfl, rfl⟩
  all_goals rcases hx with ⟨h1, rfl⟩ | ⟨h1, rfl⟩
  all_goals rcases hy with ⟨h2, rfl⟩ | ⟨h2, rfl⟩
  all_goals
    go_enter Try.func20, Try.ntmps20
    go_wp2_with (first
      | (go_at_call 21; refine (ca _).mono ?_; rintro e w1 ⟨rfl, hb⟩; replace HB := Lib.hid (HB.out.trans (hb.mono HB.out.size)); replace D2 := Lib.hid (D2.out.below hb); replace D3 := Lib.hid (D3.out.below hb); replace D4 := Lib.hid (D4.out.below hb); clear hb ca; obtain ⟨m2, x2, y2, -, -⟩ := D2.out; obtain ⟨m3, x3, y3, f3, g3⟩ := D3.out)
      | (go_at_call 21; refine (cb _).mono ?_; rintro e w2 ⟨rfl, hb⟩; replace HB := Lib.hid (HB.out.trans (hb.mono HB.out.size)); replace D3 := Lib.hid (D3.out.below hb); replace D4 := Lib.hid (D4.out.below hb); clear hb cb m2 x2 y2 m3 x3 y3 f3 g3 D2; obtain ⟨m3, x3, y3, f3, g3⟩ := D3.out; obtain ⟨m4, x4, y4, -, -⟩ := D4.out)
      | (go_at_call 21; refine (cc _).mono ?_; rintro e w3 ⟨rfl, hb⟩; replace HB := Lib.hid (HB.out.trans (hb.mono HB.out.size)); replace D3 := Lib.hid (D3.out.below hb); replace D4 := Lib.hid (D4.out.below hb); clear hb cc m3 x3 y3 f3 g3 m4 x4 y4; obtain ⟨m3, x3, y3, f3, g3⟩ := D3.out; obtain ⟨m4, x4, y4, -, -⟩ := D4.out))
  all_goals
    refine bodyPost_ret ?_ rfl ⟨rfl, below_put2 HB.out (by omega) _ _ _ _⟩
    simp [results, Try.results20, go_sem, x3, y3, Cu.three]
theorem spanMeet_any (a b c d : Int) (w : World) :
    Calls Try.prog 20 #[.agg #[.int .i64 a, .int .i64 b], .agg #[.int .i64 c, .int .i64 d]] w fun e w' =>
      e = .returned (.tuple #[.agg #[.int .i64 (Cu.meet a b c d).1, .int .i64 (Cu.meet a b c d).2], .bool (Cu.meets a b c d)]) ∧ Below w.heap.size w w' := by
  have h := spanMeet_walk a b c d (max a c) (min b d) _ _ _ w (by omega) (by omega) (fun W => spanRight_any a b W) (fun W => spanRight_any c d W) (fun W => spanRight_any (max a c) (min b d) W)
  have e : Cu.three (Cr.spanB a b) (Cr.spanB c d) (Cr.spanB (max a c) (min b d)) = Cu.meets a b c d := by
    unfold Cu.three Cu.meets
    cases h1 : Cr.spanB a b with
    | false => rfl
    | true =>
      cases h2 : Cr.spanB c d with
      | false => rfl
      | true => rw [Cu.meets_both h1 h2]
  rw [e] at h
  have e2 : Cu.meet a b c d = (bif Cu.meets a b c d then max a c else 0, bif Cu.meets a b c d then min b d else 0) := by
    unfold Cu.meet Cu.both
    cases Cu.meets a b c d <;> rfl
  rw [e2]
  exact h
end Go.Proofs.Ytlonpimnjjkfpaa
