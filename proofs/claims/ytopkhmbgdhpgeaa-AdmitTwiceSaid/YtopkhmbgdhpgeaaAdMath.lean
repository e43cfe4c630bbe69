/-
  A door's counts: plain mathematics.
-/
namespace Go.Proofs.Ytopkhmbgdhpgeaa.Ad
/-- the counts of sixteen objects, and how many Notes counted -/
structure St where
  s : List Int
  n : Int
def may (o : Int) : Bool := decide (0 ≤ o ∧ o ≤ 15)
def zero : St := ⟨List.replicate 16 0, 0⟩
def bump (s : St) (o : Int) : St := ⟨s.s.set o.toNat (s.s.getD o.toNat 0 + 1), s.n + 1⟩
def half (s : St) : St := ⟨s.s.map (· / 2), s.n⟩
def note (s : St) (o : Int) : St := if may o then (if (s.n + 1) % 32 = 0 then half (bump s o) else bump s o) else s
def seen (s : St) (o : Int) : Int := if may o then s.s.getD o.toNat 0 else 0
def notes (l : List Int) : St := l.foldl note zero
def admit (s : St) (o len most : Int) : Bool := may o && decide (0 ≤ len) && decide (len ≤ most) && decide (2 ≤ seen s o)
/-- of `m` Notes at most -/
structure Ok (m : Nat) (s : St) : Prop where
  len : s.s.length = 16
  pos : ∀ x ∈ s.s, 0 ≤ x ∧ x ≤ s.n
  n0 : 0 ≤ s.n
  n1 : s.n ≤ m
theorem may_iff {o : Int} : may o = true ↔ 0 ≤ o ∧ o ≤ 15 := by simp [may]
theorem may_no {o : Int} (h : ¬(0 ≤ o ∧ o ≤ 15)) : may o = false := by simp [may]; omega
theorem notes_snoc (l : List Int) (x : Int) : notes (l ++ [x]) = note (notes l) x := by simp [notes, List.foldl_append]
theorem Ok.zero (m : Nat) : Ok m zero := by
  refine ⟨by simp [Ad.zero], fun x hx => ?_, by simp [Ad.zero], by simp [Ad.zero]⟩
  have := List.eq_of_mem_replicate hx
  simp [Ad.zero, this]
theorem Ok.mono {m k : Nat} {s : St} (h : Ok m s) (hk : m ≤ k) : Ok k s := ⟨h.len, h.pos, h.n0, by have := h.n1; omega⟩
theorem Ok.getD {m : Nat} {s : St} (h : Ok m s) (k : Nat) : 0 ≤ s.s.getD k 0 ∧ s.s.getD k 0 ≤ s.n := by
  rw [List.getD_eq_getElem?_getD]
  rcases Nat.lt_or_ge k s.s.length with h1 | h1
  · rw [List.getElem?_eq_getElem h1]
    exact h.pos _ (List.getElem_mem h1)
  · rw [List.getElem?_eq_none h1]
    exact ⟨Int.le_refl _, h.n0⟩
theorem Ok.bump {m : Nat} {s : St} (h : Ok m s) (o : Int) : Ok (m + 1) (bump s o) := by
  refine ⟨by simp [Ad.bump, h.len], fun x hx => ?_, by have := h.n0; simp [Ad.bump]; omega, by have := h.n1; simp [Ad.bump]; omega⟩
  simp only [Ad.bump] at hx ⊢
  rcases List.mem_or_eq_of_mem_set hx with h1 | rfl
  · have := h.pos x h1; omega
  · have := h.getD o.toNat; omega
theorem Ok.half {m : Nat} {s : St} (h : Ok m s) : Ok m (half s) := by
  refine ⟨by simp [Ad.half, h.len], fun x hx => ?_, h.n0, h.n1⟩
  obtain ⟨y, hy, rfl⟩ := List.mem_map.1 hx
  have := h.pos y hy
  simp only [Ad.half]
  omega
theorem Ok.note {m : Nat} {s : St} (h : Ok m s) (o : Int) : Ok (m + 1) (note s o) := by
  unfold Ad.note
  split
  · split
    · exact (h.bump o).half
    · exact h.bump o
  · exact h.mono (by omega)
theorem Ok.notes (l : List Int) : Ok l.length (notes l) := by
  have key : ∀ (l : List Int) (m : Nat) (s : St), Ok m s → Ok (m + l.length) (l.foldl Ad.note s) := by
    intro l
    induction l with
    | nil => intro m s h; exact h
    | cons x l ih =>
      intro m s h
      have := ih (m + 1) _ (h.note x)
      simp only [List.foldl_cons, List.length_cons]
      rwa [show m + (l.length + 1) = m + 1 + l.length by omega]
  have := key l 0 Ad.zero (Ok.zero 0)
  rwa [Nat.zero_add] at this
theorem getD_half (l : List Int) (k : Nat) : (l.map (· / 2)).getD k 0 = l.getD k 0 / 2 := by
  rw [List.getD_eq_getElem?_getD, List.getD_eq_getElem?_getD, List.getElem?_map]
  cases l[k]? <;> simp
theorem getD_bump {s : St} (hl : s.s.length = 16) {o : Int} (ho : may o = true) (k : Nat) : (bump s o).s.getD k 0 = s.s.getD k 0 + (if (k : Int) = o then 1 else 0) := by
  obtain ⟨h1, h2⟩ := may_iff.1 ho
  simp only [bump, List.getD_eq_getElem?_getD, List.getElem?_set]
  by_cases h : o.toNat = k
  · rw [if_pos h, if_pos (by omega), if_pos (by omega), h]
    rfl
  · rw [if_neg h, if_neg (by omega)]
    omega
/-- a Note of another object adds nothing to a count, one of its own one at most -/
theorem seen_note {m : Nat} {s : St} (h : Ok m s) (x : Int) {o : Int} (ho : may o = true) : seen (note s x) o ≤ seen s o + (if x = o then 1 else 0) := by
  obtain ⟨h1, h2⟩ := may_iff.1 ho
  unfold seen note
  rw [if_pos ho, if_pos ho]
  have hg := h.getD o.toNat
  split
  · next hx =>
    have e := getD_bump h.len hx o.toNat
    have e2 : ((o.toNat : Int) = x) = (x = o) := by apply propext; constructor <;> intro h <;> omega
    simp only [e2] at e
    split
    · simp only [half]
      rw [getD_half, e]
      split <;> omega
    · rw [e]; omega
  · split <;> omega
def times (l : List Int) (o : Int) : Nat := (l.filter (· == o)).length
theorem times_snoc (l : List Int) (x o : Int) : times (l ++ [x]) o = times l o + (if x = o then 1 else 0) := by
  simp only [times, List.filter_append, List.length_append]
  by_cases h : x = o <;> simp [h]
theorem times_le (l : List Int) (o : Int) : times l o ≤ l.length := List.length_filter_le _ _
/-- who wasn't asked for twice isn't seen twice -/
theorem seen_times (l : List Int) {o : Int} (ho : may o = true) : seen (notes l) o ≤ times l o := by
  have key : ∀ r : List Int, seen (notes r.reverse) o ≤ times r.reverse o := by
    intro r
    induction r with
    | nil =>
      simp only [List.reverse_nil, notes, List.foldl_nil, seen, if_pos ho, zero, times]
      rw [List.getD_eq_getElem?_getD, List.getElem?_replicate]
      split <;> simp
    | cons x r ih =>
      rw [List.reverse_cons, notes_snoc, times_snoc]
      have := seen_note (Ok.notes r.reverse) x ho
      split at this
      · rw [if_pos ‹_›]; omega
      · rw [if_neg ‹_›]; omega
  have := key l.reverse
  rwa [List.reverse_reverse] at this
/-- who is asked for twice in a row is seen twice, but where a halving came between or behind -/
theorem seen_twice {m : Nat} {s : St} (h : Ok m s) {o : Int} (ho : may o = true) : (note (note s o) o).n = s.n + 2 ∧ (((s.n + 2) % 32 < 2 ∧ 32 ≤ s.n + 2) ∨ 2 ≤ seen (note (note s o) o) o) := by
  obtain ⟨h1, h2⟩ := may_iff.1 ho
  have hn := h.n0
  have e : ∀ t : St, t.s.length = 16 → (bump t o).s.getD o.toNat 0 = t.s.getD o.toNat 0 + 1 := fun t ht => by rw [getD_bump ht ho, if_pos (by omega)]
  have hg := h.getD o.toNat
  have hb := h.bump o
  have en : ∀ t : St, (note t o).n = t.n + 1 := fun t => by
    unfold note; rw [if_pos ho]; split <;> rfl
  refine ⟨by rw [en, en]; omega, ?_⟩
  by_cases c1 : (s.n + 1) % 32 = 0
  · left; omega
  by_cases c2 : (s.n + 1 + 1) % 32 = 0
  · left; omega
  right
  have e1 : note s o = bump s o := by unfold note; rw [if_pos ho, if_neg c1]
  have e2 : note (bump s o) o = bump (bump s o) o := by unfold note; rw [if_pos ho]; exact if_neg c2
  rw [e1, e2]
  unfold seen
  rw [if_pos ho, e _ hb.len, e _ h.len]
  omega
/-- some halved already -/
def mixed (l : List Int) (j : Nat) : List Int := (l.take j).map (· / 2) ++ l.drop j
theorem mixed_zero (l : List Int) : mixed l 0 = l := by simp [mixed]
theorem mixed_all {l : List Int} {j : Nat} (h : l.length ≤ j) : mixed l j = l.map (· / 2) := by simp [mixed, List.take_of_length_le h, List.drop_eq_nil_of_le h]
theorem mixed_at {l : List Int} {j : Nat} (h : j < l.length) : (mixed l j).getD j 0 = l.getD j 0 := by
  simp only [mixed, List.getD_eq_getElem?_getD]
  rw [List.getElem?_append_right (by simp; omega)]
  simp [Nat.min_eq_left (Nat.le_of_lt h)]
theorem mixed_length (l : List Int) (j : Nat) : (mixed l j).length = l.length := by simp [mixed]; omega
theorem mixed_set {l : List Int} {j : Nat} (h : j < l.length) : (mixed l j).set j (l.getD j 0 / 2) = mixed l (j + 1) := by
  have hl : ((l.take j).map (· / 2)).length = j := by simp; omega
  simp only [mixed]
  rw [List.set_append_right _ _ (by omega), hl, Nat.sub_self, List.drop_eq_getElem_cons h, List.set_cons_zero, List.take_succ_eq_append_getElem h, List.map_append, List.append_assoc, List.getD_eq_getElem?_getD, List.getElem?_eq_getElem h]
  rfl
end Go.Proofs.Ytopkhmbgdhpgeaa.Ad
