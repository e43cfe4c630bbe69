/-
  Contracts of the document's own answers on slices: Cuts, Bounds, Meet.
-/
import Derived.Test.YtlonpimnjjkfpaaCutsMath
import Derived.Test.YtlonpimnjjkfpaaDuo
import Derived.Lib.Hide
import Derived.Outline
import Derived.IntWalk
namespace Go.Proofs.Ytlonpimnjjkfpaa
open Go.ChangeShapes Go.WideShapes Go.ChangeAt Go.RowKit

theorem refCuts_walk (n s : Int) (p q r t : Bool) (w : World) (h1 : decide (0 ≤ n) = p) (h2 : decide (n ≤ 4096) = q) (h3 : decide (1 ≤ s) = r) (h4 : decide (s ≤ 64) = t) :
    Calls Try.prog 12 #[.int .i64 n, .int .i64 s] w fun e w' => e = .returned (.bool (p && q && r && t)) ∧ w = w' := by
  cases p <;> cases q <;> cases r <;> cases t
  all_goals
    go_enter Try.func12, Try.ntmps12
    go_wp2
    go_ret
    exact ⟨rfl, rfl⟩
theorem refCuts_any (n s : Int) (w : World) :
    Calls Try.prog 12 #[.int .i64 n, .int .i64 s] w fun e w' => e = .returned (.bool (Cu.ok n s)) ∧ w = w' :=
  refCuts_walk n s _ _ _ _ w rfl rfl rfl rfl

theorem refBounds_no (i n s : Int) (ok : Bool) (w : World) (h : ok = false ∨ i < 0 ∨ 4096 < i ∨ (0 ≤ i ∧ i ≤ 4096 ∧ 0 ≤ i * s ∧ i * s ≤ 262144 ∧ n ≤ i * s))
    (cc : ∀ W, Calls Try.prog 12 #[.int .i64 n, .int .i64 s] W fun e w' => e = .returned (.bool ok) ∧ W = w') :
    Calls Try.prog 8 #[.int .i64 i, .int .i64 n, .int .i64 s] w fun e w' => e = .returned (.agg #[.int .i64 0, .int .i64 0]) ∧ Below w.heap.size w w' := by
  cases ok with
  | false =>
    clear h
    go_enter Try.func8, Try.ntmps8
    go_wp2_with (go_at_call 12; refine (cc _).mono ?_; rintro e w1 ⟨rfl, rfl⟩)
    exact bodyPost_ret (v := .agg #[.int .i64 0, .int .i64 0]) (by simp [results, Try.results8, go_sem]) rfl ⟨rfl, below_new4 w _⟩
  | true =>
    rcases h with h | h | h | ⟨h4, h5, h1, h2, h3⟩
    · cases h
    all_goals
      go_enter Try.func8, Try.ntmps8
      go_wp2_with (go_at_call 12; refine (cc _).mono ?_; rintro e w1 ⟨rfl, rfl⟩)
      exact bodyPost_ret (v := .agg #[.int .i64 0, .int .i64 0]) (by simp [results, Try.results8, go_sem]) rfl ⟨rfl, below_new4 w _⟩
theorem refBounds_yes (i n s : Int) (w : World) (h0 : 0 ≤ i) (h0' : i ≤ 4096) (h1 : 0 ≤ i * s) (h2 : i * s ≤ 262144) (h3 : i * s < n) (hs : 0 ≤ s ∧ s ≤ 64)
    (cc : ∀ W, Calls Try.prog 12 #[.int .i64 n, .int .i64 s] W fun e w' => e = .returned (.bool true) ∧ W = w') :
    Calls Try.prog 8 #[.int .i64 i, .int .i64 n, .int .i64 s] w fun e w' => e = .returned (.agg #[.int .i64 (i * s), .int .i64 (min (i * s + s) n)]) ∧ Below w.heap.size w w' := by
  obtain ⟨hs1, hs2⟩ := hs
  by_cases hq : n < i * s + s
  · rw [show min (i * s + s) n = n by omega]
    go_enter Try.func8, Try.ntmps8
    go_wp2_with (go_at_call 12; refine (cc _).mono ?_; rintro e w1 ⟨rfl, rfl⟩)
    exact bodyPost_ret (v := .agg #[.int .i64 (i * s), .int .i64 n]) (by simp [results, Try.results8, go_sem]) rfl ⟨rfl, below_new2 w _ _⟩
  · rw [show min (i * s + s) n = i * s + s by omega]
    go_enter Try.func8, Try.ntmps8
    go_wp2_with (go_at_call 12; refine (cc _).mono ?_; rintro e w1 ⟨rfl, rfl⟩)
    exact bodyPost_ret (v := .agg #[.int .i64 (i * s), .int .i64 (i * s + s)]) (by simp [results, Try.results8, go_sem]) rfl ⟨rfl, below_new2 w _ _⟩
theorem refBounds_any (i n s : Int) (w : World) :
    Calls Try.prog 8 #[.int .i64 i, .int .i64 n, .int .i64 s] w fun e w' => e = .returned (.agg #[.int .i64 (Cu.bd i n s).1, .int .i64 (Cu.bd i n s).2]) ∧ Below w.heap.size w w' := by
  have cc := fun W => refCuts_any n s W
  cases hh : Cu.has i n s with
  | true =>
    obtain ⟨h1, h2, h3⟩ := Cu.has_parts hh
    obtain ⟨h4, h5, h6, h7⟩ := Cu.ok_parts h1
    have h8 := Cu.has_i hh
    obtain ⟨h9, h10⟩ := Cu.mul_le h2 (by omega) h6 h7
    rw [h1] at cc
    rw [Cu.bd_yes hh]
    exact refBounds_yes i n s w h2 (by omega) h9 h10 h3 ⟨by omega, h7⟩ cc
  | false =>
    rw [Cu.bd_no hh]
    refine refBounds_no i n s _ w ?_ cc
    cases h1 : Cu.ok n s with
    | false => exact .inl rfl
    | true =>
      obtain ⟨h4, h5, h6, h7⟩ := Cu.ok_parts h1
      by_cases h2 : i < 0
      · exact .inr (.inl h2)
      by_cases h3 : 4096 < i
      · exact .inr (.inr (.inl h3))
      obtain ⟨h9, h10⟩ := Cu.mul_le (i := i) (by omega) (by omega) h6 h7
      refine .inr (.inr (.inr ⟨by omega, by omega, h9, h10, ?_⟩))
      by_cases h8 : i * s < n
      · rw [Cu.has_of h1 (by omega) h8] at hh; cases hh
      · omega

theorem refMeet_no (a b c d : Int) (p q : Bool) (w : World) (h : (p && q) = false)
    (ca : ∀ W, Calls Try.prog 14 #[.agg #[.int .i64 a, .int .i64 b]] W fun e w' => e = .returned (.bool p) ∧ Below W.heap.size W w')
    (cb : ∀ W, Calls Try.prog 14 #[.agg #[.int .i64 c, .int .i64 d]] W fun e w' => e = .returned (.bool q) ∧ Below W.heap.size W w') :
    Calls Try.prog 10 #[.agg #[.int .i64 a, .int .i64 b], .agg #[.int .i64 c, .int .i64 d]] w fun e w' => e = .returned (.agg #[.int .i64 0, .int .i64 0]) ∧ Below w.heap.size w w' := by
  have HB := Lib.hid (below_new3 w (.cells #[.int .i64 a, .int .i64 b] 23) (.cells #[.int .i64 c, .int .i64 d] 23) (.cells #[.int .i64 0, .int .i64 0] 23))
  have D1 := Lib.hid (((Duo.new w (.int .i64 a) (.int .i64 b) 23).alloc (.cells #[.int .i64 c, .int .i64 d] 23)).alloc (.cells #[.int .i64 0, .int .i64 0] 23))
  have D2 := Lib.hid ((Duo.second w (.cells #[.int .i64 a, .int .i64 b] 23) (.int .i64 c) (.int .i64 d) 23).alloc (.cells #[.int .i64 0, .int .i64 0] 23))
  have D3 := Lib.hid (Duo.third w (.cells #[.int .i64 a, .int .i64 b] 23) (.cells #[.int .i64 c, .int .i64 d] 23) (.int .i64 0) (.int .i64 0) 23)
  cases p
  case' true => cases q
  case' true.true => cases h
  all_goals
    go_enter Try.func10, Try.ntmps10
    go_wp2_with (first
      | (go_at_call 14; refine (ca _).mono ?_; rintro e w1 ⟨rfl, hb⟩; replace HB := Lib.hid (HB.out.trans (hb.mono HB.out.size)); replace D1 := Lib.hid (D1.out.below hb); replace D2 := Lib.hid (D2.out.below hb); replace D3 := Lib.hid (D3.out.below hb); clear hb ca; obtain ⟨m1, x1, y1, f1, g1⟩ := D1.out; obtain ⟨m2, x2, y2, f2, g2⟩ := D2.out; obtain ⟨m3, x3, y3, f3, g3⟩ := D3.out)
      | (go_at_call 14; refine (cb _).mono ?_; rintro e w2 ⟨rfl, hb⟩; replace HB := Lib.hid (HB.out.trans (hb.mono HB.out.size)); replace D1 := Lib.hid (D1.out.below hb); replace D2 := Lib.hid (D2.out.below hb); replace D3 := Lib.hid (D3.out.below hb); clear hb cb m1 x1 y1 f1 g1 m2 x2 y2 f2 g2 m3 x3 y3 f3 g3; obtain ⟨m1, x1, y1, f1, g1⟩ := D1.out; obtain ⟨m2, x2, y2, f2, g2⟩ := D2.out; obtain ⟨m3, x3, y3, f3, g3⟩ := D3.out))
    exact bodyPost_ret (v := .agg #[.int .i64 0, .int .i64 0]) (by simp [results, Try.results10, go_sem, x3, y3]) rfl ⟨rfl, below_put2 HB.out (by omega) _ _ _ _⟩
set_option maxHeartbeats 1000000 in
theorem refMeet_yes (a b c d x y z t : Int) (w : World) (hx : (a < c ∧ x = c) ∨ (c ≤ a ∧ x = a)) (hy : (d < b ∧ y = d) ∨ (b ≤ d ∧ y = b)) (hz : (x < y ∧ z = x ∧ t = y) ∨ (y ≤ x ∧ z = 0 ∧ t = 0))
    (ca : ∀ W, Calls Try.prog 14 #[.agg #[.int .i64 a, .int .i64 b]] W fun e w' => e = .returned (.bool true) ∧ Below W.heap.size W w')
    (cb : ∀ W, Calls Try.prog 14 #[.agg #[.int .i64 c, .int .i64 d]] W fun e w' => e = .returned (.bool true) ∧ Below W.heap.size W w') :
    Calls Try.prog 10 #[.agg #[.int .i64 a, .int .i64 b], .agg #[.int .i64 c, .int .i64 d]] w fun e w' => e = .returned (.agg #[.int .i64 z, .int .i64 t]) ∧ Below w.heap.size w w' := by
  have HB := Lib.hid (below_new3 w (.cells #[.int .i64 a, .int .i64 b] 23) (.cells #[.int .i64 c, .int .i64 d] 23) (.cells #[.int .i64 0, .int .i64 0] 23))
  have D1 := Lib.hid (((Duo.new w (.int .i64 a) (.int .i64 b) 23).alloc (.cells #[.int .i64 c, .int .i64 d] 23)).alloc (.cells #[.int .i64 0, .int .i64 0] 23))
  have D2 := Lib.hid ((Duo.second w (.cells #[.int .i64 a, .int .i64 b] 23) (.int .i64 c) (.int .i64 d) 23).alloc (.cells #[.int .i64 0, .int .i64 0] 23))
  have D3 := Lib.hid (Duo.third w (.cells #[.int .i64 a, .int .i64 b] 23) (.cells #[.int .i64 c, .int .i64 d] 23) (.int .i64 0) (.int .i64 0) 23)
  rcases hx with ⟨h1, rfl⟩ | ⟨h1, rfl⟩ <;> rcases hy with ⟨h2, rfl⟩ | ⟨h2, rfl⟩ <;> rcases hz with ⟨h3, rfl, rfl⟩ | ⟨h3, rfl, rfl⟩
  all_goals
    go_enter Try.func10, Try.ntmps10
    go_wp2_with (first
      | (go_at_call 14; refine (ca _).mono ?_; rintro e w1 ⟨rfl, hb⟩; replace HB := Lib.hid (HB.out.trans (hb.mono HB.out.size)); replace D1 := Lib.hid (D1.out.below hb); replace D2 := Lib.hid (D2.out.below hb); replace D3 := Lib.hid (D3.out.below hb); clear hb ca; obtain ⟨m1, x1, y1, f1, g1⟩ := D1.out; obtain ⟨m2, x2, y2, f2, g2⟩ := D2.out; obtain ⟨m3, x3, y3, f3, g3⟩ := D3.out)
      | (go_at_call 14; refine (cb _).mono ?_; rintro e w2 ⟨rfl, hb⟩; replace HB := Lib.hid (HB.out.trans (hb.mono HB.out.size)); replace D1 := Lib.hid (D1.out.below hb); replace D2 := Lib.hid (D2.out.below hb); replace D3 := Lib.hid (D3.out.below hb); clear hb cb m1 x1 y1 f1 g1 m2 x2 y2 f2 g2 m3 x3 y3 f3 g3; obtain ⟨m1, x1, y1, f1, g1⟩ := D1.out; obtain ⟨m2, x2, y2, f2, g2⟩ := D2.out; obtain ⟨m3, x3, y3, f3, g3⟩ := D3.out))
  all_goals
    refine bodyPost_ret ?_ rfl ⟨rfl, ?_⟩
    · simp [results, Try.results10, go_sem, x3, y3]
    · repeat (first | exact HB.out | refine Below.setCell ?_ (by simp <;> omega) _)
theorem refMeet_any (a b c d : Int) (w : World) :
    Calls Try.prog 10 #[.agg #[.int .i64 a, .int .i64 b], .agg #[.int .i64 c, .int .i64 d]] w fun e w' =>
      e = .returned (.agg #[.int .i64 (Cu.meet a b c d).1, .int .i64 (Cu.meet a b c d).2]) ∧ Below w.heap.size w w' := by
  have ca := fun W => refRight_any a b W
  have cb := fun W => refRight_any c d W
  cases h : Cr.spanB a b && Cr.spanB c d with
  | false =>
    rw [show Cu.meet a b c d = (0, 0) by unfold Cu.meet Cu.meets; rw [h]; rfl]
    exact refMeet_no a b c d _ _ w h ca cb
  | true =>
    have hm : Cu.meets a b c d = decide (max a c < min b d) := by unfold Cu.meets; rw [h, Bool.true_and]
    rw [Bool.and_eq_true] at h
    rw [h.1] at ca
    rw [h.2] at cb
    refine refMeet_yes a b c d (max a c) (min b d) _ _ w (by omega) (by omega) ?_ ca cb
    unfold Cu.meet
    rw [hm]
    by_cases hq : max a c < min b d
    · rw [decide_eq_true hq]; exact .inl ⟨hq, rfl, rfl⟩
    · rw [decide_eq_false hq]; exact .inr ⟨by omega, rfl, rfl⟩
end Go.Proofs.Ytlonpimnjjkfpaa
