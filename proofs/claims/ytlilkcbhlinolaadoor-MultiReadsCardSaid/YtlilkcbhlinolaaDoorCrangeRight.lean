/-
  Contracts: what may be said of bytes: span.Right, crange.told, crange.Right, and the document's own Right, RightContent.
-/
import Derived.Test.YtlilkcbhlinolaaDoorNums
import Derived.Test.YtlilkcbhlinolaaDoorTwo
import Derived.Test.YtlilkcbhlinolaaDoorFour
import Derived.Below
namespace Go.Proofs.YtlilkcbhlinolaaDoor
open Go.ChangeShapes Go.WideShapes Go.ChangeAt Go.RowKit

theorem told_any (k : Bool) (a b n : Int) (w : World) :
    Calls Tryd.prog 54 #[.agg #[.bool k, .int .i64 a, .int .i64 b, .int .i64 n]] w fun e w' => e = .returned (.bool (n != -1)) ∧ Below w.heap.size w w' := by
  go_enter Tryd.func54, Tryd.ntmps54
  go_wp2
  go_ret
  exact ⟨rfl, below_new4 w _⟩
theorem told_if {n : Int} {t : Bool} (h : (n != -1) = t) (k : Bool) (a b : Int) (w : World) :
    Calls Tryd.prog 54 #[.agg #[.bool k, .int .i64 a, .int .i64 b, .int .i64 n]] w fun e w' => e = .returned (.bool t) ∧ Below w.heap.size w w' := by
  subst h
  exact told_any k a b n w

theorem spanRight_walk (a b : Int) (p q r : Bool) (w : World) (h1 : decide (0 ≤ a) = p) (h2 : decide (a < b) = q) (h3 : decide (b ≤ 4611686018427387903) = r) :
    Calls Tryd.prog 24 #[.agg #[.int .i64 a, .int .i64 b]] w fun e w' => e = .returned (.bool (p && q && r)) ∧ Below w.heap.size w w' := by
  cases p <;> cases q <;> cases r
  all_goals
    go_enter Tryd.func24, Tryd.ntmps24
    go_wp2
    go_ret
    exact ⟨rfl, below_new4 w _⟩
theorem refRight_walk (a b : Int) (p q r : Bool) (w : World) (h1 : decide (0 ≤ a) = p) (h2 : decide (a < b) = q) (h3 : decide (b ≤ 4611686018427387903) = r) :
    Calls Tryd.prog 26 #[.agg #[.int .i64 a, .int .i64 b]] w fun e w' => e = .returned (.bool (p && q && r)) ∧ Below w.heap.size w w' := by
  cases p <;> cases q <;> cases r
  all_goals
    go_enter Tryd.func26, Tryd.ntmps26
    go_wp2
    go_ret
    exact ⟨rfl, below_new4 w _⟩

/-- what may be said of bytes: are they known, from, to, how many there are -/
def Cr.spanB (a b : Int) : Bool := decide (0 ≤ a) && decide (a < b) && decide (b ≤ 4611686018427387903)
def Cr.rv (t f k sp le z : Bool) : Bool := if t && !f then false else if k then sp && (!t || le) else t && z
def Cr.rightB (k : Bool) (a b n : Int) : Bool :=
  Cr.rv (n != -1) (decide (0 ≤ n) && decide (n ≤ 4611686018427387903)) k (Cr.spanB a b) (decide (b ≤ n)) (a == 0 && b == 0)
theorem spanRight_any (a b : Int) (w : World) :
    Calls Tryd.prog 24 #[.agg #[.int .i64 a, .int .i64 b]] w fun e w' => e = .returned (.bool (Cr.spanB a b)) ∧ Below w.heap.size w w' :=
  spanRight_walk a b _ _ _ w rfl rfl rfl
theorem refRight_any (a b : Int) (w : World) :
    Calls Tryd.prog 26 #[.agg #[.int .i64 a, .int .i64 b]] w fun e w' => e = .returned (.bool (Cr.spanB a b)) ∧ Below w.heap.size w w' :=
  refRight_walk a b _ _ _ w rfl rfl rfl

set_option maxHeartbeats 1000000 in
theorem crRight_walk (k t f sp : Bool) (a b n : Int) (w : World) (ht : (n != -1) = t)
    (cf : ∀ W, Calls Tryd.prog 23 #[.int .i64 n, .int .i64 0, .int .i64 4611686018427387903] W fun e w' => e = .returned (.bool f) ∧ W = w')
    (cs : ∀ W, Calls Tryd.prog 24 #[.agg #[.int .i64 a, .int .i64 b]] W fun e w' => e = .returned (.bool sp) ∧ Below W.heap.size W w') :
    Calls Tryd.prog 52 #[.agg #[.bool k, .int .i64 a, .int .i64 b, .int .i64 n]] w fun e w' =>
      e = .returned (.bool (Cr.rv t f k sp (decide (b ≤ n)) (a == 0 && b == 0))) ∧ Below w.heap.size w w' := by
  have ct := fun W => told_if ht k a b W
  have FH := Lib.hid (Four.new w (.bool k) (.int .i64 a) (.int .i64 b) (.int .i64 n) 52)
  have HB := below_new4 w (.cells #[.bool k, .int .i64 a, .int .i64 b, .int .i64 n] 52)
  clear ht
  cases t <;> cases f <;> cases k <;> cases sp
  all_goals
    go_enter Tryd.func52, Tryd.ntmps52
    go_wp2_with (first
      | (go_at_call 54; refine (ct _).mono ?_; rintro e w1 ⟨rfl, hb⟩; replace FH := Lib.hid (FH.out.below hb); replace HB := HB.trans (hb.mono HB.size); clear hb; obtain ⟨n1, x1, y1, z1, t1, _⟩ := FH.out)
      | (go_at_call 23; refine (cf _).mono ?_; rintro e w1 ⟨rfl, rfl⟩)
      | (go_at_call 24; refine (cs _).mono ?_; rintro e w1 ⟨rfl, hb⟩; replace FH := Lib.hid (FH.out.below hb); replace HB := HB.trans (hb.mono HB.size); clear hb; obtain ⟨n2, x2, y2, z2, t2, _⟩ := FH.out))
    all_goals
      go_ret
      exact ⟨by simp_all [Cr.rv], HB⟩

/-- a number is one that may be, as Fits tells it -/
theorem fits_any (n a b : Int) (w : World) :
    Calls Tryd.prog 23 #[.int .i64 n, .int .i64 a, .int .i64 b] w fun e w' => e = .returned (.bool (decide (a ≤ n) && decide (n ≤ b))) ∧ w = w' := by
  by_cases h : a ≤ n ∧ n ≤ b
  · rw [decide_eq_true h.1, decide_eq_true h.2]; exact fits_yes n a b w h.1 h.2
  · rw [show (decide (a ≤ n) && decide (n ≤ b)) = false by simpa using h]; exact fits_no n a b w h
theorem crRight_any (k : Bool) (a b n : Int) (w : World) :
    Calls Tryd.prog 52 #[.agg #[.bool k, .int .i64 a, .int .i64 b, .int .i64 n]] w fun e w' => e = .returned (.bool (Cr.rightB k a b n)) ∧ Below w.heap.size w w' :=
  crRight_walk k _ _ _ a b n w rfl (fun W => fits_any n 0 4611686018427387903 W) (fun W => spanRight_any a b W)

/-- the document's own, in its order -/
def Cr.rc (lo hi one sp le z ge k : Bool) : Bool := if lo || hi then false else if k then sp && (one || le) else z && ge

set_option maxHeartbeats 1000000 in
theorem refRC_known (lo hi one sp : Bool) (a b n : Int) (w : World) (h1 : decide (n < -1) = lo) (h2 : decide (4611686018427387903 < n) = hi) (h3 : (n == -1) = one)
    (cs : ∀ W, Calls Tryd.prog 26 #[.agg #[.int .i64 a, .int .i64 b]] W fun e w' => e = .returned (.bool sp) ∧ Below W.heap.size W w') :
    Calls Tryd.prog 33 #[.agg #[.bool true, .int .i64 a, .int .i64 b, .int .i64 n]] w fun e w' =>
      e = .returned (.bool (Cr.rc lo hi one sp (decide (b ≤ n)) false false true)) ∧ Below w.heap.size w w' := by
  have FH := Lib.hid (Four.new w (.bool true) (.int .i64 a) (.int .i64 b) (.int .i64 n) 52)
  have HB := below_new4 w (.cells #[.bool true, .int .i64 a, .int .i64 b, .int .i64 n] 52)
  cases lo <;> cases hi <;> cases one <;> cases sp
  all_goals
    go_enter Tryd.func33, Tryd.ntmps33
    go_wp2_with (go_at_call 26; refine (cs _).mono ?_; rintro e w1 ⟨rfl, hb⟩; replace FH := Lib.hid (FH.out.below hb); replace HB := HB.trans (hb.mono HB.size); clear hb; obtain ⟨n2, x2, y2, z2, t2, _⟩ := FH.out)
    go_ret
    exact ⟨rfl, HB⟩

set_option maxHeartbeats 1000000 in
theorem refRC_not (lo hi : Bool) (a b n : Int) (w : World) (h1 : decide (n < -1) = lo) (h2 : decide (4611686018427387903 < n) = hi) :
    Calls Tryd.prog 33 #[.agg #[.bool false, .int .i64 a, .int .i64 b, .int .i64 n]] w fun e w' =>
      e = .returned (.bool (Cr.rc lo hi false false false (a == 0 && b == 0) (decide (0 ≤ n)) false)) ∧ Below w.heap.size w w' := by
  by_cases ha : a = 0
  all_goals by_cases hb : b = 0
  all_goals first | subst ha | skip
  all_goals first | subst hb | skip
  all_goals cases lo
  all_goals cases hi
  all_goals
    go_enter Tryd.func33, Tryd.ntmps33
    go_wp2
    go_ret
    exact ⟨by simp [Cr.rc, *], below_new4 w _⟩

theorem Cr.rc_eq (k : Bool) (a b n : Int) : Cr.rc (decide (n < -1)) (decide (4611686018427387903 < n)) (n == -1) (Cr.spanB a b) (decide (b ≤ n)) (a == 0 && b == 0) (decide (0 ≤ n)) k = Cr.rightB k a b n := by
  unfold Cr.rc Cr.rightB Cr.rv
  rw [show (n == -1) = decide (n = -1) from rfl, show (n != -1) = !decide (n = -1) from rfl]
  by_cases h : n = -1
  · subst h; simp
  · rw [decide_eq_false h]
    by_cases h0 : 0 ≤ n
    · by_cases hm : n ≤ 4611686018427387903
      · rw [decide_eq_true h0, decide_eq_true hm, decide_eq_false (show ¬ n < -1 by omega), decide_eq_false (show ¬ 4611686018427387903 < n by omega)]; simp
      · rw [decide_eq_false hm, decide_eq_true (show 4611686018427387903 < n by omega)]; simp
    · rw [decide_eq_false h0, decide_eq_true (show n < -1 by omega)]; simp
theorem refRightContent_any (k : Bool) (a b n : Int) (w : World) :
    Calls Tryd.prog 33 #[.agg #[.bool k, .int .i64 a, .int .i64 b, .int .i64 n]] w fun e w' => e = .returned (.bool (Cr.rightB k a b n)) ∧ Below w.heap.size w w' := by
  rw [← Cr.rc_eq]
  cases k
  · exact refRC_not _ _ a b n w rfl rfl
  · exact refRC_known _ _ _ _ a b n w rfl rfl rfl (fun W => refRight_any a b W)
end Go.Proofs.YtlilkcbhlinolaaDoor
