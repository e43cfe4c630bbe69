/-
  Contract of the document's own One: what a text says as a spec.
-/
import Derived.Test.YtokknicfnnkldaaDoorRRSpecOne
import Derived.Test.YtokknicfnnkldaaDoorRRRefParse
import Derived.Test.YtokknicfnnkldaaDoorRRRefText
namespace Go.Proofs.YtokknicfnnkldaaDoorRR
open Go.ChangeShapes Go.WideShapes Go.ChangeAt Go.RowKit

theorem refOne_no (s A B : ByteArray) (n e m f : Int) (w : World)
    (cc : ∀ W, Calls Tryd.prog 11 #[.string s, .int .u8 45] W fun x w' => x = .returned (.tuple #[.string A, .string B, .bool false]) ∧ Below W.heap.size W w')
    (ca : ∀ W, Calls Tryd.prog 24 #[.string A] W fun x w' => x = .returned (.tuple #[.int .i64 n, .int .i64 e]) ∧ W = w')
    (cb : ∀ W, Calls Tryd.prog 24 #[.string B] W fun x w' => x = .returned (.tuple #[.int .i64 m, .int .i64 f]) ∧ W = w') :
    Calls Tryd.prog 16 #[.string s] w (SpecTo (Sp.zero, 3) w) := by
  have HB := Below.refl w.heap.size w
  go_enter Tryd.func16, Tryd.ntmps16
  go_wp2_with (first
    | (go_at_call 11; refine (cc _).mono ?_; rintro x w1 ⟨rfl, hb⟩; have T1 := (Three.new w (.int .i64 0) (.int .i64 0) (.int .i64 0) _).below hb; obtain ⟨n1, x1, y1, z1, u1, u2, u3⟩ := T1; replace HB := below_box3 HB hb; clear hb)
    | (go_at_call 24; (first | (with_reducible refine (ca _).mono ?_) | (with_reducible refine (cb _).mono ?_)); rintro x w' ⟨rfl, rfl⟩))
  exact bodyPost_ret (v := .tuple #[.agg #[.int .i64 0, .int .i64 0, .int .i64 0], .int .i64 3]) (by simp [results, Tryd.results16, go_sem, x1, y1, z1]) rfl (specTo_of rfl (below_set3 HB (Nat.le_refl _) _ _ _))

set_option maxHeartbeats 1000000 in
theorem refOne_lone (s A B : ByteArray) (n e m f : Int) (p q z : Bool) (w : World)
    (cc : ∀ W, Calls Tryd.prog 11 #[.string s, .int .u8 45] W fun x w' => x = .returned (.tuple #[.string A, .string B, .bool true]) ∧ Below W.heap.size W w')
    (ca : ∀ W, Calls Tryd.prog 24 #[.string A] W fun x w' => x = .returned (.tuple #[.int .i64 n, .int .i64 e]) ∧ W = w')
    (cb : ∀ W, Calls Tryd.prog 24 #[.string B] W fun x w' => x = .returned (.tuple #[.int .i64 m, .int .i64 f]) ∧ W = w')
    (h1 : A.toList.isEmpty = p) (h2 : B.toList.isEmpty = q) (hpq : (p || q) = true)
    (hf : ((if p then f else e) == 0) = z) (hf2 : ((if p then f else e) != 0) = !z) :
    Calls Tryd.prog 16 #[.string s] w (SpecTo (if p then (if z then ((3, m, 0), 0) else (Sp.zero, f)) else (if z then ((1, n, 0), 0) else (Sp.zero, e))) w) := by
  have HB := Below.refl w.heap.size w
  cases p <;> cases q <;> cases z
  all_goals
    simp only [Bool.or_self, Bool.or_true, Bool.true_or, Bool.false_eq_true] at hpq
  all_goals
    simp only [if_true, if_false, Bool.false_eq_true] at hf hf2
    go_enter Tryd.func16, Tryd.ntmps16
    go_wp2_with (first
      | (go_at_call 11; refine (cc _).mono ?_; rintro x w1 ⟨rfl, hb⟩; have T1 := (Three.new w (.int .i64 0) (.int .i64 0) (.int .i64 0) _).below hb; obtain ⟨n1, x1, y1, z1, u1, u2, u3⟩ := T1; replace HB := below_box3 HB hb; clear hb)
      | (go_at_call 24; (first | (with_reducible refine (ca _).mono ?_) | (with_reducible refine (cb _).mono ?_)); rintro x w' ⟨rfl, rfl⟩))
    first
      | exact bodyPost_ret (v := .tuple #[.agg #[.int .i64 0, .int .i64 0, .int .i64 0], .int .i64 e]) (by simp [results, Tryd.results16, go_sem, x1, y1, z1]) rfl (specTo_of rfl (below_set3 HB (Nat.le_refl _) _ _ _))
      | exact bodyPost_ret (v := .tuple #[.agg #[.int .i64 0, .int .i64 0, .int .i64 0], .int .i64 f]) (by simp [results, Tryd.results16, go_sem, x1, y1, z1]) rfl (specTo_of rfl (below_set3 HB (Nat.le_refl _) _ _ _))
      | exact bodyPost_ret (v := .tuple #[.agg #[.int .i64 1, .int .i64 n, .int .i64 0], .int .i64 0]) (by simp [results, Tryd.results16, go_sem, x1, y1, z1]) rfl (specTo_of rfl (below_set3 HB (Nat.le_refl _) _ _ _))
      | exact bodyPost_ret (v := .tuple #[.agg #[.int .i64 3, .int .i64 m, .int .i64 0], .int .i64 0]) (by simp [results, Tryd.results16, go_sem, x1, y1, z1]) rfl (specTo_of rfl (below_set3 HB (Nat.le_refl _) _ _ _))

set_option maxHeartbeats 4000000 in
theorem refOne_pair (s A B : ByteArray) (n e m f : Int) (r : Bool) (w : World)
    (cc : ∀ W, Calls Tryd.prog 11 #[.string s, .int .u8 45] W fun x w' => x = .returned (.tuple #[.string A, .string B, .bool true]) ∧ Below W.heap.size W w')
    (ca : ∀ W, Calls Tryd.prog 24 #[.string A] W fun x w' => x = .returned (.tuple #[.int .i64 n, .int .i64 e]) ∧ W = w')
    (cb : ∀ W, Calls Tryd.prog 24 #[.string B] W fun x w' => x = .returned (.tuple #[.int .i64 m, .int .i64 f]) ∧ W = w')
    (cl : ∀ W, Calls Tryd.prog 25 #[.string B, .string A] W fun x w' => x = .returned (.bool r) ∧ W = w')
    (h1 : A.toList.isEmpty = false) (h2 : B.toList.isEmpty = false) (he : e = 0 ∨ e = 3 ∨ e = 9) (hf : f = 0 ∨ f = 3 ∨ f = 9) :
    Calls Tryd.prog 16 #[.string s] w (SpecTo (if (e == 3) || ((f == 3) || r) then (Sp.zero, 3) else if (e != 0) || (f != 0) then (Sp.zero, 9) else ((2, n, m), 0)) w) := by
  have HB := Below.refl w.heap.size w
  rcases he with rfl | rfl | rfl <;> rcases hf with rfl | rfl | rfl <;> cases r
  all_goals
    go_enter Tryd.func16, Tryd.ntmps16
    go_wp2_with (first
      | (go_at_call 11; refine (cc _).mono ?_; rintro x w1 ⟨rfl, hb⟩; have T1 := (Three.new w (.int .i64 0) (.int .i64 0) (.int .i64 0) _).below hb; obtain ⟨n1, x1, y1, z1, u1, u2, u3⟩ := T1; replace HB := below_box3 HB hb; clear hb)
      | (go_at_call 24; (first | (with_reducible refine (ca _).mono ?_) | (with_reducible refine (cb _).mono ?_)); rintro x w' ⟨rfl, rfl⟩)
      | (go_at_call 25; refine (cl _).mono ?_; rintro x w' ⟨rfl, rfl⟩))
    first
      | exact bodyPost_ret (v := .tuple #[.agg #[.int .i64 0, .int .i64 0, .int .i64 0], .int .i64 3]) (by simp [results, Tryd.results16, go_sem, x1, y1, z1]) rfl (specTo_of rfl (below_set3 HB (Nat.le_refl _) _ _ _))
      | exact bodyPost_ret (v := .tuple #[.agg #[.int .i64 0, .int .i64 0, .int .i64 0], .int .i64 9]) (by simp [results, Tryd.results16, go_sem, x1, y1, z1]) rfl (specTo_of rfl (below_set3 HB (Nat.le_refl _) _ _ _))
      | exact bodyPost_ret (v := .tuple #[.agg #[.int .i64 2, .int .i64 n, .int .i64 m], .int .i64 0]) (by simp [results, Tryd.results16, go_sem, x1, y1, z1]) rfl (specTo_of rfl (below_set3 HB (Nat.le_refl _) _ _ _))

theorem pair_split (A B : List UInt8) : Sp.pair A B = if ((Nm.parse A).2 == 3) || (((Nm.parse B).2 == 3) || Sp.less B A) then (Sp.zero, 3) else if ((Nm.parse A).2 != 0) || ((Nm.parse B).2 != 0) then (Sp.zero, 9) else ((2, (Nm.parse A).1, (Nm.parse B).1), 0) := by
  unfold Sp.pair
  simp only [Bool.or_eq_true, beq_iff_eq, bne_iff_ne]
  by_cases h : (Nm.parse A).2 = 3 ∨ (Nm.parse B).2 = 3 ∨ Sp.less B A = true
  · rw [if_pos h, if_pos h]
  · rw [if_neg h, if_neg h]
    have hl : Sp.less B A = false := by
      cases hh : Sp.less B A with
      | false => rfl
      | true => exact absurd (.inr (.inr hh)) h
    have ha : (Nm.parse A).2 ≠ 3 := fun e => h (.inl e)
    have hb : (Nm.parse B).2 ≠ 3 := fun e => h (.inr (.inl e))
    rcases Sp.parse_err B with hb0 | hb3 | hb9
    · have h0 : (Nm.parse A).2 = 0 := by
        rcases Sp.parse_err A with h0 | h3 | h9
        · exact h0
        · exact absurd h3 ha
        · have := Sp.nine_both h9 hb hl
          omega
      rw [if_neg (by omega), if_neg (by omega)]
    · exact absurd hb3 hb
    · rw [if_pos hb9, if_pos (by omega)]

theorem refOne_any (s : ByteArray) (w : World) (hs : s.size ≤ maxLen) :
    Calls Tryd.prog 16 #[.string s] w (SpecTo (Sp.one s.data.toList) w) := by
  have hl := cut_len s.data.toList 45
  rw [size_list] at hl
  have hA : (Str (Tx.cut s.data.toList 45).1).size ≤ maxLen := by rw [str_size]; omega
  have hB : (Str (Tx.cut s.data.toList 45).2.1).size ≤ maxLen := by rw [str_size]; omega
  have cc := fun W => refCut_any s 45 W (by unfold maxLen at hs; omega)
  have ca := fun W => refParse_any _ W hA
  have cb := fun W => refParse_any _ W hB
  rw [str_list] at ca cb
  rw [one_split]
  unfold CutTo at cc
  cases hi : (Tx.cut s.data.toList 45).2.2 with
  | false =>
    rw [hi] at cc
    rw [if_neg (by simp)]
    exact refOne_no s _ _ _ _ _ _ w cc ca cb
  | true =>
    rw [hi] at cc
    rw [if_pos rfl]
    by_cases h1 : (Tx.cut s.data.toList 45).1 = []
    · have := refOne_lone s _ _ _ _ _ _ _ _ _ w cc ca cb (empty_of _) (empty_of _) (by simp [h1]) rfl (ne_of rfl)
      rw [decide_eq_true h1] at this ⊢
      rw [if_pos rfl] at this ⊢
      simp only [if_true, beq_iff_eq] at this
      exact this
    · by_cases h2 : (Tx.cut s.data.toList 45).2.1 = []
      · have := refOne_lone s _ _ _ _ _ _ _ _ _ w cc ca cb (empty_of _) (empty_of _) (by simp [h2]) rfl (ne_of rfl)
        rw [decide_eq_false h1] at this ⊢
        rw [if_neg (by simp)] at this ⊢
        rw [decide_eq_true h2, if_pos rfl]
        simp only [if_false, Bool.false_eq_true, beq_iff_eq] at this
        exact this
      · have := refOne_pair s _ _ _ _ _ _ _ w cc ca cb (fun W => refLess_any _ _ W) ((empty_of _).trans (decide_eq_false h1)) ((empty_of _).trans (decide_eq_false h2)) (Sp.parse_err _) (Sp.parse_err _)
        rw [str_list, str_list] at this
        rw [decide_eq_false h1, if_neg (by simp), decide_eq_false h2, if_neg (by simp), pair_split]
        exact this
end Go.Proofs.YtokknicfnnkldaaDoorRR
