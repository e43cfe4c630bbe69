/-
  Contract of text.listed: may a text be a list.
-/
import Derived.Test.YtokknicfnnkldaaDoorRRTextLower
import Derived.Test.YtokknicfnnkldaaDoorRRLastIndex
namespace Go.Proofs.YtokknicfnnkldaaDoorRR
open Go.ChangeShapes Go.WideShapes Go.ChangeAt Go.RowKit

set_option maxHeartbeats 4000000 in
theorem listed_walk (s F R LF RG : ByteArray) (k : Nat) (p q0 q1 q2 q3 q4 q5 : Bool) (w : World) (hk : k ≤ s.size) (hs : s.size ≤ 9223372036854775807)
    (cc : ∀ W, Calls Tryd.prog 17 #[.string s, .int .u8 44] W fun e w' => e = .returned (.tuple #[.string F, .string R, .bool p]) ∧ Below W.heap.size W w')
    (ci : ∀ W, Calls Tryd.prog 37 #[.string s, .int .u8 44] W fun e w' => e = .returned (.int .i64 ((k : Int) - 1)) ∧ W = w')
    (c0 : ∀ W, Calls Tryd.prog 38 #[.string s] W fun e w' => e = .returned (.bool q0) ∧ Below W.heap.size W w')
    (c1 : ∀ W, Calls Tryd.prog 38 #[.string F] W fun e w' => e = .returned (.bool q1) ∧ Below W.heap.size W w')
    (c2 : ∀ W, Calls Tryd.prog 27 #[.string F] W fun e w' => e = .returned (.string LF) ∧ Below W.heap.size W w')
    (c3 : ∀ W, Calls Tryd.prog 38 #[.string (s.extract k s.size)] W fun e w' => e = .returned (.bool q3) ∧ Below W.heap.size W w')
    (c4 : ∀ W, Calls Tryd.prog 28 #[.string (s.extract k s.size)] W fun e w' => e = .returned (.string RG) ∧ Below W.heap.size W w')
    (e2 : (LF.toList != F.toList) = q2) (e2b : (LF.toList == F.toList) = !q2) (e4 : (RG.toList == (s.extract k s.size).toList) = q4) (e5 : s.toList.isEmpty = q5) :
    Calls Tryd.prog 30 #[.string s] w fun e w' => e = .returned (.bool (if (!p && q0) = true then q5 else ((q1 || !q2) && (q3 || q4)))) ∧ Below w.heap.size w w' := by
  have HB := Below.refl w.heap.size w
  cases p <;> cases q0 <;> cases q1 <;> cases q2 <;> cases q3
  all_goals
    simp only [Bool.not_true, Bool.not_false] at e2b
    go_enter Tryd.func30, Tryd.ntmps30
    go_wp2_with (first
      | (go_at_call 17; refine (cc _).mono ?_; rintro e w1 ⟨rfl, hb⟩; replace HB := HB.trans (hb.mono HB.size); clear hb)
      | (go_at_call 37; refine (ci _).mono ?_; rintro e w1 ⟨rfl, rfl⟩)
      | (go_at_call 38; (first | (with_reducible refine (c0 _).mono ?_) | (with_reducible refine (c1 _).mono ?_) | (with_reducible refine (c3 _).mono ?_)); rintro e w1 ⟨rfl, hb⟩; replace HB := HB.trans (hb.mono HB.size); clear hb)
      | (go_at_call 27; refine (c2 _).mono ?_; rintro e w1 ⟨rfl, hb⟩; replace HB := HB.trans (hb.mono HB.size); clear hb)
      | (go_at_call 28; refine (c4 _).mono ?_; rintro e w1 ⟨rfl, hb⟩; replace HB := HB.trans (hb.mono HB.size); clear hb))
    go_ret
    exact ⟨rfl, HB⟩

theorem listed_bools (l : List UInt8) : Tx.listed l = if (!(Tx.cut l 44).2.2 && decide (Tx.left l = [])) = true then decide (l = []) else ((decide (Tx.left (Tx.first l) = []) || !decide (¬ Tx.left (Tx.first l) = Tx.first l)) && (decide (Tx.left (Tx.last l) = []) || decide (Tx.right (Tx.last l) = Tx.last l))) := by
  unfold Tx.listed
  by_cases h1 : (Tx.cut l 44).2.2 = false <;> by_cases h2 : Tx.left l = [] <;> simp [h1, h2]

theorem empty_is (s : ByteArray) : s.toList.isEmpty = decide (s.data.toList = []) := by
  rw [Lib.toList_data]
  cases s.data.toList <;> simp

theorem last_drop {l : List UInt8} {k : Nat} (hn : (44 : UInt8) ∉ l.drop k) (ho : k = 0 ∨ ∃ a, l = a ++ 44 :: l.drop k ∧ a.length + 1 = k) : Tx.last l = l.drop k := by
  rcases ho with rfl | ⟨a, e, _⟩
  · rw [List.drop_zero] at hn ⊢
    exact Tx.last_none hn
  · conv => lhs; rw [e]
    exact Tx.last_at hn
theorem lastComma (s : ByteArray) (w : World) (hs : s.size ≤ 9223372036854775807) :
    Calls Tryd.prog 37 #[.string s, .int .u8 44] w fun e w' => e = .returned (.int .i64 (((s.size - (Tx.last s.data.toList).length : Nat) : Int) - 1)) ∧ w = w' :=
  (lastIdx_any s 44 w hs).mono fun e w' ⟨⟨k, he, hk, hn, ho⟩, hw⟩ => by
    refine ⟨?_, hw⟩
    have h1 := last_drop hn ho
    have h2 : s.size - (Tx.last s.data.toList).length = k := by rw [h1, List.length_drop, size_list]; omega
    rw [h2]
    exact he
theorem last_extract (s : ByteArray) : (s.extract (s.size - (Tx.last s.data.toList).length) s.size).data.toList = Tx.last s.data.toList := by
  rw [Lib.extract_to_end]
  rcases Tx.cut_cases s.data.toList 44 with ⟨a, b, e, hn⟩ | hn
  · have : ∃ k, k ≤ s.data.toList.length ∧ Tx.last s.data.toList = s.data.toList.drop k := by
      have hm : (44 : UInt8) ∈ s.data.toList := by rw [e]; simp
      obtain ⟨x, y, e', hy⟩ : ∃ x y, s.data.toList = x ++ 44 :: y ∧ (44 : UInt8) ∉ y := by
        have := List.eq_append_cons_of_mem (List.mem_reverse.2 hm)
        obtain ⟨u, v, huv, hnu⟩ := this
        refine ⟨v.reverse, u.reverse, ?_, by simpa using hnu⟩
        have := congrArg List.reverse huv
        simpa using this
      refine ⟨x.length + 1, by rw [e']; simp, ?_⟩
      rw [e', Tx.last_at hy, List.drop_append]
      simp
    obtain ⟨k, hk, hl⟩ := this
    rw [hl, List.length_drop, size_list]
    rw [size_list] at hk
    congr 1
    omega
  · rw [Tx.last_none hn, size_list, Nat.sub_self, List.drop_zero]

theorem listed_any (s : ByteArray) (w : World) (hs : s.size ≤ 9223372036854775807) :
    Calls Tryd.prog 30 #[.string s] w fun e w' => e = .returned (.bool (Tx.listed s.data.toList)) ∧ Below w.heap.size w w' := by
  have hx := last_extract s
  rw [listed_bools]
  refine listed_walk s (Str (Tx.cut s.data.toList 44).1) (Str (Tx.cut s.data.toList 44).2.1) (Str (Tx.left (Tx.first s.data.toList))) (Str (Tx.right (Tx.last s.data.toList))) (s.size - (Tx.last s.data.toList).length) _ _ _ _ _ _ _ w (by omega) hs
    (fun W => cut_any s 44 W hs) (fun W => lastComma s W hs) (fun W => blank_any s W) (fun W => blank_any _ W) (fun W => left_any _ W) (fun W => ?_) (fun W => ?_) ?_ ?_ ?_ ?_
  · have := blank_any (s.extract (s.size - (Tx.last s.data.toList).length) s.size) W
    rwa [hx] at this
  · have := right_any (s.extract (s.size - (Tx.last s.data.toList).length) s.size) W (by simp; omega)
    rwa [hx] at this
  · rw [show ((Str (Tx.left (Tx.first s.data.toList))).toList != (Str (Tx.cut s.data.toList 44).1).toList) = !((Str (Tx.left (Tx.first s.data.toList))).toList == (Str (Tx.cut s.data.toList 44).1).toList) from rfl, same_str]
    by_cases h : Tx.left (Tx.first s.data.toList) = Tx.first s.data.toList
    · have h' : (Str (Tx.left (Tx.first s.data.toList))).data.toList = (Str (Tx.cut s.data.toList 44).1).data.toList := h
      rw [decide_eq_true h', decide_eq_false (fun e => e h)]
      rfl
    · have h' : ¬ (Str (Tx.left (Tx.first s.data.toList))).data.toList = (Str (Tx.cut s.data.toList 44).1).data.toList := h
      rw [decide_eq_false h', decide_eq_true h]
      rfl
  · rw [same_str]
    by_cases h : Tx.left (Tx.first s.data.toList) = Tx.first s.data.toList
    · have h' : (Str (Tx.left (Tx.first s.data.toList))).data.toList = (Str (Tx.cut s.data.toList 44).1).data.toList := h
      rw [decide_eq_true h', decide_eq_false (fun e => e h)]
      rfl
    · have h' : ¬ (Str (Tx.left (Tx.first s.data.toList))).data.toList = (Str (Tx.cut s.data.toList 44).1).data.toList := h
      rw [decide_eq_false h', decide_eq_true h]
      rfl
  · rw [same_str, hx]
    rfl
  · exact empty_is s
end Go.Proofs.YtokknicfnnkldaaDoorRR
