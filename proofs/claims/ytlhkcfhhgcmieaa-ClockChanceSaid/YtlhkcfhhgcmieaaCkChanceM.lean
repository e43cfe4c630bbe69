/-
  A second chance: plain mathematics of rows that were added, and touched.
-/
import Derived.Test.YtlhkcfhhgcmieaaCkMath
namespace Go.Proofs.Ytlhkcfhhgcmieaa
namespace Ck
def adds (l : List Int) : List Sit := l.foldl add []
def touches (m : List Sit) (t : List Int) : List Sit := t.foldl touch m
theorem adds_snoc (l : List Int) (x : Int) : adds (l ++ [x]) = add (adds l) x := by simp [adds]
theorem touches_snoc (m : List Sit) (t : List Int) (x : Int) : touches m (t ++ [x]) = touch (touches m t) x := by simp [touches]
theorem ok_fold : ∀ (l : List Int) (m : List Sit), Ok m → Ok (l.foldl add m)
  | [], _, h => h
  | x :: l, _, h => ok_fold l _ (h.add x)
theorem ok_adds (l : List Int) : Ok (adds l) := ok_fold l _ Ok.nil
theorem ok_touches : ∀ (t : List Int) (m : List Sit), Ok m → Ok (touches m t)
  | [], _, h => h
  | x :: t, m, h => ok_touches t (touch m x) (h.touch x)
theorem touches_map : ∀ (t : List Int) (m : List Sit), (touches m t).map (·.1) = m.map (·.1)
  | [], _ => rfl
  | x :: t, m => (touches_map t (touch m x)).trans (touch_map m x)
theorem touches_length (m : List Sit) (t : List Int) : (touches m t).length = m.length := by
  have := congrArg List.length (touches_map t m)
  simpa using this
/-- nobody who was added is marked -/
theorem plain_fold : ∀ (l : List Int) (m : List Sit), (∀ p ∈ m, p.2 = false) → ∀ p ∈ l.foldl add m, p.2 = false
  | [], _, h => h
  | x :: l, m, h => plain_fold l _ (fun p hp => by
    unfold add at hp
    split at hp
    · rcases List.mem_append.1 hp with hp | hp
      · exact h p hp
      · rw [List.mem_singleton.1 hp]
    · exact h p hp)
theorem plain_adds (l : List Int) : ∀ p ∈ adds l, p.2 = false := plain_fold l [] (by simp)
theorem mark_plain {m : List Sit} (h : ∀ p ∈ m, p.2 = false) (o : Int) : mark m o = false := by
  by_cases hp : pos m o < m.length
  · rw [mark_yes hp]
    exact h _ (List.getElem_mem hp)
  · exact mark_no hp
/-- who may be and was added is there -/
theorem there_fold (x : Int) : ∀ (l : List Int) (m : List Sit), (x ∈ m.map (·.1) ∨ (x ∈ l ∧ may x = true)) → x ∈ (l.foldl add m).map (·.1)
  | [], m, h => by
    rcases h with h | h
    · exact h
    · simp at h
  | y :: l, m, h => by
    refine there_fold x l (add m y) ?_
    rcases h with h | ⟨h, hm⟩
    · left
      unfold add
      split
      · rw [List.map_append]; exact List.mem_append_left _ h
      · exact h
    · rcases List.mem_cons.1 h with rfl | h
      · left
        unfold add
        split
        · simp
        · next hn =>
          by_cases hp : pos m x < m.length
          · exact pos_mem.1 hp
          · exact absurd ⟨hm, hp⟩ hn
      · exact .inr ⟨h, hm⟩
theorem there_adds {x : Int} {l : List Int} (h : x ∈ l) (hm : may x = true) : x ∈ (adds l).map (·.1) := there_fold x l [] (.inr ⟨h, hm⟩)
/-- who is marked was touched -/
theorem marked_touched (S : Int → Prop) : ∀ (t : List Int) (m : List Sit), (∀ p ∈ m, p.2 = true → S p.1) → (∀ x ∈ t, S x) → ∀ p ∈ touches m t, p.2 = true → S p.1
  | [], _, h, _ => h
  | x :: t, m, h, ht => marked_touched S t (touch m x) (fun p hp hb => by
      unfold touch at hp
      rcases List.mem_or_eq_of_mem_set hp with hp | rfl
      · exact h p hp hb
      · exact ht x (by simp)) (fun y hy => ht y (List.mem_cons_of_mem _ hy))
theorem touch_free {m : List Sit} (ok : Ok m) {o : Int} {p : Sit} (hp : p ∈ touch m o) (hb : p.2 = false) : p ∈ m ∧ p.1 ≠ o := by
  unfold touch at hp
  obtain ⟨j, hj, e⟩ := List.getElem_of_mem hp
  rw [List.length_set] at hj
  rw [List.getElem_set] at e
  split at e
  · subst e
    cases hb
  · next hne =>
    subst e
    refine ⟨List.getElem_mem hj, fun e => hne ?_⟩
    have := ok.pos hj
    rw [e] at this
    exact this
/-- who isn't marked wasn't touched -/
theorem free_untouched : ∀ (t : List Int) (m : List Sit), Ok m → ∀ p ∈ touches m t, p.2 = false → p.1 ∉ t
  | [], _, _, _, _, _ => by simp
  | x :: t, m, ok, p, hp, hb => by
    have h1 := free_untouched t (touch m x) (ok.touch x) p hp hb
    have h2 : p ∈ touch m x := by
      have key : ∀ (t : List Int) (m : List Sit), Ok m → p ∈ touches m t → p ∈ m := by
        intro t
        induction t with
        | nil => intro m _ h; exact h
        | cons y t ih => intro m ok h; exact (touch_free ok (ih (touch m y) (ok.touch y) h) hb).1
      exact key t _ (ok.touch x) hp
    have h3 := (touch_free ok h2 hb).2
    simp [h3, h1]
/-- as long as one that may be wasn't touched, the victim wasn't -/
theorem chance {l t : List Int} (h : ∃ x ∈ l, may x = true ∧ x ∉ t) : who (touches (adds l) t) ∉ t := by
  obtain ⟨x, hx, hm, ht⟩ := h
  have h1 : x ∈ (touches (adds l) t).map (·.1) := by rw [touches_map]; exact there_adds hx hm
  obtain ⟨p, hp, e⟩ := List.mem_map.1 h1
  have h2 : p.2 = false := by
    cases hb : p.2 with
    | false => rfl
    | true =>
      have := marked_touched (fun y => y ∈ t) t (adds l) (fun q hq hq2 => by rw [plain_adds l q hq] at hq2; cases hq2) (fun y hy => hy) p hp hb
      exact absurd (e ▸ this) ht
  exact free_untouched t (adds l) (ok_adds l) _ (who_free ⟨p, hp, h2⟩) rfl
theorem who_plain {m : List Sit} (h : ∀ p ∈ m, p.2 = false) (h0 : m ≠ []) : (m.map (·.1))[0]? = some (who m) := by
  cases m with
  | nil => exact absurd rfl h0
  | cons p r =>
    obtain ⟨o, b⟩ := p
    have hb : b = false := h (o, b) (by simp)
    subst hb
    unfold who
    rw [vic_stop]
    rfl
theorem who_first {m : List Sit} (h0 : m ≠ []) : ((vic m).map (·.1))[0]? = some (who m) ∧ pos (vic m) (who m) < (vic m).length ∧ mark (vic m) (who m) = false := by
  obtain ⟨r, e⟩ := vic_head h0
  generalize who m = x at *
  have hp : pos (vic m) x = 0 := pos_hit (by rw [e]; simp) (Nat.zero_le _) (by simp [e])
  refine ⟨by rw [e]; rfl, by rw [hp, e]; simp, ?_⟩
  rw [mark_yes (by rw [hp, e]; simp)]
  have key : ∀ (q : Nat) (hq : q < (vic m).length), q = 0 → ((vic m)[q]).2 = false := fun q hq e0 => by
    subst e0
    simp [e]
  exact key _ _ hp
end Ck
end Go.Proofs.Ytlhkcfhhgcmieaa
