/-
  Plain mathematics: a body of parts tells its parts, its total, and where it ends.
-/
import Derived.Test.YtlilkcbhlinolaaDoorParts
import Derived.Test.YtlilkcbhlinolaaDoorCrangeMath
namespace Go.Proofs.YtlilkcbhlinolaaDoor

theorem Mu.ok_right {t : Int} {p : Mu.Part} (ht : t ≤ 4611686018427387903) (h : Mu.okP t p = true) : Cr.rightB true p.1 p.2.1 t = true ∧ p.2.1 - p.1 = (p.2.2.length : Int) := by
  unfold Mu.okP at h
  simp only [Bool.and_eq_true, Bool.not_eq_true', decide_eq_false_iff_not, beq_iff_eq] at h
  obtain ⟨⟨h1, h2⟩, h3⟩ := h
  refine ⟨?_, h3⟩
  have hs := h1
  unfold Cr.spanB at hs
  simp only [Bool.and_eq_true, decide_eq_true_eq] at hs
  unfold Cr.rightB Cr.rv
  rw [h1, decide_eq_true (show (0 : Int) ≤ t by omega), decide_eq_true ht, decide_eq_true (show p.2.1 ≤ t by omega), show (t != -1) = true by simp; omega]
  rfl
/-- a Content-Range holds no end of a line -/
theorem print_no13 {a b t : Int} (h : Cr.rightB true a b t = true) : (13 : UInt8) ∉ Cr.printL true a b t := by
  obtain ⟨h1, h2, h3, h4⟩ := Cr.right_known h
  have dig {l : List UInt8} (hl : l.all Nm.digB = true) : (13 : UInt8) ∉ l := by
    intro e
    have := List.all_eq_true.1 hl _ e
    revert this; decide
  obtain ⟨d1, _⟩ := dec_plain (n := a) (by omega) (by omega)
  obtain ⟨d2, _⟩ := dec_plain (n := b - 1) (by omega) (by omega)
  have d3 : (13 : UInt8) ∉ (if t != -1 then Lib.itoa t else [42]) := by
    by_cases ht : t = -1
    · subst ht; decide
    · rw [if_pos (by simpa using ht)]
      exact dig (dec_plain (n := t) (by omega) (by omega)).1
  unfold Cr.printL
  rw [if_pos h, if_pos rfl]
  simp only [List.mem_append, not_or]
  exact ⟨⟨⟨by decide, ⟨⟨dig d1, by decide⟩, dig d2⟩⟩, by decide⟩, d3⟩
theorem split13 {a a' r r' : List UInt8} (h : (13 : UInt8) ∉ a) (h' : (13 : UInt8) ∉ a') (e : a ++ 13 :: r = a' ++ 13 :: r') : a = a' ∧ r = r' := by
  have h1 := cut_here (b := r) h
  rw [e, cut_here h'] at h1
  injection h1 with h2 h3
  injection h3 with h4 _
  exact ⟨h2.symm, h4.symm⟩

theorem Mu.put_cons (p : Mu.Part) (L : List Mu.Part) (t : Int) (bound : List UInt8) :
    Mu.put (p :: L) t bound = [45, 45] ++ (bound ++ (Mu.field ++ (Cr.printL true p.1 p.2.1 t ++ ([13, 10, 13, 10] ++ (p.2.2 ++ (Mu.eol ++ Mu.put L t bound)))))) := by
  have e : Mu.piece bound t p = [45, 45] ++ (bound ++ (Mu.field ++ (Cr.printL true p.1 p.2.1 t ++ ([13, 10, 13, 10] ++ (p.2.2 ++ Mu.eol))))) := by
    unfold Mu.piece Mu.head
    simp only [List.append_assoc]
  unfold Mu.put
  rw [List.flatMap_cons, e]
  simp only [List.append_assoc]
/-- one body can't go on as another -/
theorem Mu.tells (bound : List UInt8) : ∀ (L L' : List Mu.Part) (t t' : Int) (r r' : List UInt8), t ≤ 4611686018427387903 → t' ≤ 4611686018427387903 → L.all (Mu.okP t) = true → L'.all (Mu.okP t') = true →
    Mu.put L t bound ++ r = Mu.put L' t' bound ++ r' → L = L' ∧ (L ≠ [] → t = t') ∧ r = r'
  | [], [], t, t', r, r', _, _, _, _, e => by
    unfold Mu.put at e
    exact ⟨rfl, fun h => absurd rfl h, by simpa using e⟩
  | [], p :: L', t, t', r, r', _, _, _, _, e => by
    exfalso
    unfold Mu.put Mu.close Mu.piece Mu.head Mu.field at e
    simp only [List.flatMap_nil, List.flatMap_cons, List.nil_append, List.append_assoc, List.cons_append, List.cons.injEq, true_and] at e
    have := List.append_cancel_left e
    simp at this
  | p :: L, [], t, t', r, r', _, _, _, _, e => by
    exfalso
    unfold Mu.put Mu.close Mu.piece Mu.head Mu.field at e
    simp only [List.flatMap_nil, List.flatMap_cons, List.nil_append, List.append_assoc, List.cons_append, List.cons.injEq, true_and] at e
    have := List.append_cancel_left e
    simp at this
  | p :: L, p' :: L', t, t', r, r', ht, ht', hL, hL', e => by
    rw [List.all_cons, Bool.and_eq_true] at hL hL'
    obtain ⟨hr, hlen⟩ := Mu.ok_right ht hL.1
    obtain ⟨hr', hlen'⟩ := Mu.ok_right ht' hL'.1
    have e2 : Cr.printL true p.1 p.2.1 t ++ 13 :: ([10, 13, 10] ++ (p.2.2 ++ (Mu.eol ++ (Mu.put L t bound ++ r)))) = Cr.printL true p'.1 p'.2.1 t' ++ 13 :: ([10, 13, 10] ++ (p'.2.2 ++ (Mu.eol ++ (Mu.put L' t' bound ++ r')))) := by
      rw [Mu.put_cons, Mu.put_cons] at e
      simp only [List.append_assoc] at e
      have e1 := List.append_cancel_left (List.append_cancel_left (List.append_cancel_left e))
      simpa only [List.append_assoc, List.cons_append, List.nil_append] using e1
    obtain ⟨hp, e3⟩ := split13 (print_no13 hr) (print_no13 hr') e2
    have b1 := Cr.back hr
    rw [hp, Cr.back hr'] at b1
    simp only [Prod.mk.injEq, true_and, and_true] at b1
    obtain ⟨ha, hb, htt⟩ := b1
    have e4 := List.append_cancel_left e3
    have hl : p.2.2.length = p'.2.2.length := by omega
    obtain ⟨hbody, e5⟩ := List.append_inj e4 hl
    have e6 := List.append_cancel_left e5
    obtain ⟨q1, _, q3⟩ := Mu.tells bound L L' t t' r r' ht ht' hL.2 hL'.2 e6
    refine ⟨?_, fun _ => htt.symm, q3⟩
    rw [q1]
    congr 1
    obtain ⟨pa, pb, pc⟩ := p
    obtain ⟨pa', pb', pc'⟩ := p'
    simp only at ha hb hbody
    rw [← ha, ← hb, hbody]
theorem Mu.right_parts {L : List Mu.Part} {t : Int} (h : Mu.right L t = true) : L.all (Mu.okP t) = true ∧ L ≠ [] ∧ L.length ≤ 16 ∧ t ≤ 4611686018427387903 := by
  unfold Mu.right at h
  simp only [Bool.and_eq_true, decide_eq_true_eq] at h
  obtain ⟨h1, ⟨h2, h3⟩, h4⟩ := h
  exact ⟨h1, fun e => by subst e; simp at h2, by omega, h4⟩
/-- P8.3, P8.4: a body is of one row of parts and one total alone; with bytes behind it it is of none -/
theorem Mu.only {L L' : List Mu.Part} {t t' : Int} {bound r : List UInt8} (h : Mu.right L t = true) (h' : Mu.right L' t' = true) (e : Mu.put L t bound ++ r = Mu.put L' t' bound) : L = L' ∧ t = t' ∧ r = [] := by
  obtain ⟨h1, h2, _, h4⟩ := Mu.right_parts h
  obtain ⟨k1, _, _, k4⟩ := Mu.right_parts h'
  obtain ⟨q1, q2, q3⟩ := Mu.tells bound L L' t t' r [] h4 k4 h1 k1 (by rw [List.append_nil]; exact e)
  exact ⟨q1, q2 h2, q3⟩
end Go.Proofs.YtlilkcbhlinolaaDoor
