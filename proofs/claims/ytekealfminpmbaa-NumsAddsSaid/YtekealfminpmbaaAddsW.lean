/-
  Contracts of nums.Add, and the walk of the statement on sums.
-/
import Derived.Test.YtekealfminpmbaaNums
namespace Go.Proofs.Ytekealfminpmbaa
open Go.ChangeShapes Go.WideShapes Go.ChangeAt Go.RowKit

theorem add_arg (a b : Int) (w : World) (h : a < 0 ∨ 4611686018427387903 < a ∨ b < 0 ∨ 4611686018427387903 < b) :
    Calls Try.prog 5 #[.int .i64 a, .int .i64 b] w fun e w' => e = .returned (.tuple #[.int .i64 0, .int .i64 1]) ∧ w = w' := by
  by_cases ha : 0 ≤ a ∧ a ≤ 4611686018427387903
  · have c1 := fits_yes a 0 4611686018427387903 w ha.1 ha.2
    have c2 := fits_no b 0 4611686018427387903 w (by omega)
    clear h ha
    go_enter Try.func5, Try.ntmps5
    go_wp2_with (go_at_call 6; first | (refine c1.mono ?_; rintro e w' ⟨rfl, rfl⟩; clear c1) | (refine c2.mono ?_; rintro e w' ⟨rfl, rfl⟩; clear c2))
    go_ret2
    exact ⟨rfl, rfl⟩
  · have c1 := fits_no a 0 4611686018427387903 w ha
    clear h ha
    go_enter Try.func5, Try.ntmps5
    go_wp2_with (go_at_call 6; refine c1.mono ?_; rintro e w' ⟨rfl, rfl⟩; clear c1)
    go_ret2
    exact ⟨rfl, rfl⟩

theorem add_over (a b : Int) (w : World) (ha : 0 ≤ a ∧ a ≤ 4611686018427387903) (hb : 0 ≤ b ∧ b ≤ 4611686018427387903) (h : 4611686018427387903 < a + b) :
    Calls Try.prog 5 #[.int .i64 a, .int .i64 b] w fun e w' => e = .returned (.tuple #[.int .i64 0, .int .i64 9]) ∧ w = w' := by
  obtain ⟨a1, a2⟩ := ha
  obtain ⟨b1, b2⟩ := hb
  have c1 := fits_yes a 0 4611686018427387903 w a1 a2
  have c2 := fits_yes b 0 4611686018427387903 w b1 b2
  have t : 4611686018427387903 - b < a := by omega
  go_enter Try.func5, Try.ntmps5
  go_wp2_with (go_at_call 6; first | (refine c1.mono ?_; rintro e w' ⟨rfl, rfl⟩; clear c1) | (refine c2.mono ?_; rintro e w' ⟨rfl, rfl⟩; clear c2))
  go_ret2
  exact ⟨rfl, rfl⟩

theorem add_ok (a b : Int) (w : World) (ha : 0 ≤ a ∧ a ≤ 4611686018427387903) (hb : 0 ≤ b ∧ b ≤ 4611686018427387903) (h : a + b ≤ 4611686018427387903) :
    Calls Try.prog 5 #[.int .i64 a, .int .i64 b] w fun e w' => e = .returned (.tuple #[.int .i64 (a + b), .int .i64 0]) ∧ w = w' := by
  obtain ⟨a1, a2⟩ := ha
  obtain ⟨b1, b2⟩ := hb
  have c1 := fits_yes a 0 4611686018427387903 w a1 a2
  have c2 := fits_yes b 0 4611686018427387903 w b1 b2
  have t : a ≤ 4611686018427387903 - b := by omega
  go_enter Try.func5, Try.ntmps5
  go_wp2_with (go_at_call 6; first | (refine c1.mono ?_; rintro e w' ⟨rfl, rfl⟩; clear c1) | (refine c2.mono ?_; rintro e w' ⟨rfl, rfl⟩; clear c2))
  go_ret2
  exact ⟨rfl, rfl⟩

set_option maxHeartbeats 2000000 in
/-- the statement's walk under a known answer of Fits -/
theorem adds_arg (a b n : Int) (w : World) (r : Bool) (cf : Calls Try.prog 6 #[.int .i64 n, .int .i64 a, .int .i64 b] w fun e w' => e = .returned (.bool r) ∧ w = w')
    (hr : r = (decide (a ≤ n) && decide (n ≤ b))) (h : a < 0 ∨ 4611686018427387903 < a ∨ b < 0 ∨ 4611686018427387903 < b) :
    Calls Try.prog 3 #[.int .i64 a, .int .i64 b, .int .i64 n] w fun e w' => e = .returned (.bool true) ∧ w = w' := by
  have ca := awake_yes w
  have c1 := add_arg a b w h
  have H : (a < 0) ∨ (0 ≤ a ∧ b < 0) ∨ (0 ≤ a ∧ 0 ≤ b ∧ 4611686018427387903 < a) ∨ (0 ≤ a ∧ 0 ≤ b ∧ a ≤ 4611686018427387903 ∧ 4611686018427387903 < b) := by omega
  clear h
  by_cases h1 : a ≤ n
  all_goals by_cases h2 : n ≤ b
  all_goals simp only [h1, h2, decide_true, decide_false, Bool.and_true, Bool.and_false] at hr
  all_goals subst hr
  all_goals rcases H with H | ⟨H0, H⟩ | ⟨H0, H1, H⟩ | ⟨H0, H1, H2, H⟩
  all_goals
    go_enter Try.func3, Try.ntmps3
    go_wp2_with (first | (go_at_call 6; refine cf.mono ?_; rintro e w' ⟨rfl, rfl⟩; clear cf) | (go_at_call 4; refine ca.mono ?_; rintro e w' ⟨rfl, rfl⟩; clear ca) | (go_at_call 5; refine c1.mono ?_; rintro e w' ⟨rfl, rfl⟩; clear c1))
    all_goals (go_ret; exact ⟨rfl, rfl⟩)

set_option maxHeartbeats 2000000 in
theorem adds_over (a b n : Int) (w : World) (r : Bool) (cf : Calls Try.prog 6 #[.int .i64 n, .int .i64 a, .int .i64 b] w fun e w' => e = .returned (.bool r) ∧ w = w')
    (hr : r = (decide (a ≤ n) && decide (n ≤ b))) (ha : 0 ≤ a ∧ a ≤ 4611686018427387903) (hb : 0 ≤ b ∧ b ≤ 4611686018427387903) (h : 4611686018427387903 < a + b) :
    Calls Try.prog 3 #[.int .i64 a, .int .i64 b, .int .i64 n] w fun e w' => e = .returned (.bool true) ∧ w = w' := by
  have ca := awake_yes w
  have c1 := add_over a b w ha hb h
  obtain ⟨a1, a2⟩ := ha
  obtain ⟨b1, b2⟩ := hb
  by_cases h1 : a ≤ n
  all_goals by_cases h2 : n ≤ b
  all_goals simp only [h1, h2, decide_true, decide_false, Bool.and_true, Bool.and_false] at hr
  all_goals subst hr
  all_goals
    go_enter Try.func3, Try.ntmps3
    go_wp2_with (first | (go_at_call 6; refine cf.mono ?_; rintro e w' ⟨rfl, rfl⟩; clear cf) | (go_at_call 4; refine ca.mono ?_; rintro e w' ⟨rfl, rfl⟩; clear ca) | (go_at_call 5; refine c1.mono ?_; rintro e w' ⟨rfl, rfl⟩; clear c1))
    all_goals (go_ret; exact ⟨rfl, rfl⟩)

set_option maxHeartbeats 2000000 in
theorem adds_ok (a b n : Int) (w : World) (r : Bool) (cf : Calls Try.prog 6 #[.int .i64 n, .int .i64 a, .int .i64 b] w fun e w' => e = .returned (.bool r) ∧ w = w')
    (hr : r = (decide (a ≤ n) && decide (n ≤ b))) (ha : 0 ≤ a ∧ a ≤ 4611686018427387903) (hb : 0 ≤ b ∧ b ≤ 4611686018427387903) (h : a + b ≤ 4611686018427387903) :
    Calls Try.prog 3 #[.int .i64 a, .int .i64 b, .int .i64 n] w fun e w' => e = .returned (.bool true) ∧ w = w' := by
  have ca := awake_yes w
  have c1 := add_ok a b w ha hb h
  have c2 := add_ok b a w hb ha (by omega)
  have hab : b + a = a + b := by omega
  rw [hab] at c2
  clear hab
  obtain ⟨a1, a2⟩ := ha
  obtain ⟨b1, b2⟩ := hb
  have h0 : 0 ≤ a + b := by omega
  by_cases h1 : a ≤ n
  all_goals by_cases h2 : n ≤ b
  all_goals simp only [h1, h2, decide_true, decide_false, Bool.and_true, Bool.and_false] at hr
  all_goals subst hr
  all_goals
    go_enter Try.func3, Try.ntmps3
    go_wp2_with (first | (go_at_call 6; refine cf.mono ?_; rintro e w' ⟨rfl, rfl⟩; clear cf) | (go_at_call 4; refine ca.mono ?_; rintro e w' ⟨rfl, rfl⟩; clear ca) | (go_at_call 5; refine c1.mono ?_; rintro e w' ⟨rfl, rfl⟩; clear c1) | (go_at_call 5; refine c2.mono ?_; rintro e w' ⟨rfl, rfl⟩; clear c2))
    all_goals (go_ret; exact ⟨rfl, rfl⟩)

theorem adds_walk (a b n : Int) (w : World) :
    Calls Try.prog 3 #[.int .i64 a, .int .i64 b, .int .i64 n] w fun e w' => e = .returned (.bool true) ∧ w = w' := by
  have cf : ∃ r : Bool, r = (decide (a ≤ n) && decide (n ≤ b)) ∧ Calls Try.prog 6 #[.int .i64 n, .int .i64 a, .int .i64 b] w fun e w' => e = .returned (.bool r) ∧ w = w' := by
    by_cases h : a ≤ n ∧ n ≤ b
    · exact ⟨true, by simp [h.1, h.2], fits_yes n a b w h.1 h.2⟩
    · exact ⟨false, by
        by_cases h1 : a ≤ n
        · have h2 : ¬ n ≤ b := fun h2 => h ⟨h1, h2⟩
          simp [h2]
        · simp [h1], fits_no n a b w h⟩
  obtain ⟨r, hr, cf⟩ := cf
  by_cases hx : (0 ≤ a ∧ a ≤ 4611686018427387903) ∧ (0 ≤ b ∧ b ≤ 4611686018427387903)
  · by_cases ho : a + b ≤ 4611686018427387903
    · exact adds_ok a b n w r cf hr hx.1 hx.2 ho
    · exact adds_over a b n w r cf hr hx.1 hx.2 (by omega)
  · exact adds_arg a b n w r cf hr (by omega)
end Go.Proofs.Ytekealfminpmbaa
