/-
  Plain mathematics of spans made one: fold by fold; which slices have a byte of what comes out.
-/
import Derived.Test.YtlonpimnjjkfpaaCutsMath
import Derived.Test.YtlonpimnjjkfpaaSpans
namespace Go.Proofs.Ytlonpimnjjkfpaa

def Mg.right (x : Int × Int) : Bool := Cr.spanB x.1 x.2
/-- one more span, which begins no earlier than what there is -/
def Mg.step (g : Int) (out : List (Int × Int)) (s : Int × Int) : List (Int × Int) :=
  match out.getLast? with
  | none => [s]
  | some p => if g < s.1 - p.2 then out ++ [s] else out.dropLast ++ [(p.1, max p.2 s.2)]
def Mg.fold (g : Int) (D : List (Int × Int)) : List (Int × Int) := D.foldl (Mg.step g) []
theorem Mg.step_nil (g : Int) (s : Int × Int) : Mg.step g [] s = [s] := rfl
theorem Mg.step_far {g : Int} {o : List (Int × Int)} {p s : Int × Int} (h : g < s.1 - p.2) : Mg.step g (o ++ [p]) s = o ++ [p] ++ [s] := by
  unfold Mg.step
  rw [List.getLast?_concat]
  exact if_pos h
theorem Mg.step_near {g : Int} {o : List (Int × Int)} {p s : Int × Int} (h : ¬ g < s.1 - p.2) : Mg.step g (o ++ [p]) s = o ++ [(p.1, max p.2 s.2)] := by
  unfold Mg.step
  rw [List.getLast?_concat, List.dropLast_concat]
  exact if_neg h
theorem Mg.fold_next {g : Int} {D : List (Int × Int)} {k : Nat} (h : k < D.length) : Mg.fold g (D.take (k + 1)) = Mg.step g (Mg.fold g (D.take k)) D[k] := by
  unfold Mg.fold
  rw [List.take_succ_eq_append_getElem h, List.foldl_append]
  rfl
theorem Mg.snoc (o : List (Int × Int)) : o = [] ∨ ∃ q p, o = q ++ [p] := by
  rcases List.eq_nil_or_concat o with h | ⟨q, p, h⟩
  · exact .inl h
  · exact .inr ⟨q, p, by rw [h, List.concat_eq_append]⟩
theorem Mg.step_len (g : Int) (o : List (Int × Int)) (s : Int × Int) : (Mg.step g o s).length ≤ o.length + 1 := by
  rcases Mg.snoc o with rfl | ⟨q, p, rfl⟩
  · simp [Mg.step_nil]
  · by_cases h : g < s.1 - p.2
    · rw [Mg.step_far h]; simp
    · rw [Mg.step_near h]; simp
theorem Mg.fold_len (g : Int) (D : List (Int × Int)) (k : Nat) : (Mg.fold g (D.take k)).length ≤ k := by
  induction k with
  | zero => simp [Mg.fold]
  | succ k ih =>
    by_cases h : k < D.length
    · rw [Mg.fold_next h]
      have := Mg.step_len g (Mg.fold g (D.take k)) D[k]
      omega
    · rw [List.take_of_length_le (by omega)]
      rw [List.take_of_length_le (by omega)] at ih
      omega

/-- what holds of what is made of the spans D, which rise by where they begin -/
def Mg.At (x : Int × Int) (i : Int) : Prop := x.1 ≤ i ∧ i < x.2
def Mg.Inv (g : Int) (D o : List (Int × Int)) : Prop :=
  (∀ x ∈ o, Mg.right x = true) ∧ o.Pairwise (fun x y => x.1 ≤ y.1) ∧ (∀ x ∈ o, ∃ y ∈ D, x.1 = y.1) ∧ (g = 0 → ∀ i, (∃ x ∈ o, Mg.At x i) ↔ ∃ x ∈ D, Mg.At x i)
theorem Mg.right_parts {x : Int × Int} (h : Mg.right x = true) : 0 ≤ x.1 ∧ x.1 < x.2 ∧ x.2 ≤ 4611686018427387903 := spanB_parts h
theorem Mg.right_of {x : Int × Int} (h1 : 0 ≤ x.1) (h2 : x.1 < x.2) (h3 : x.2 ≤ 4611686018427387903) : Mg.right x = true := by
  unfold Mg.right Cr.spanB
  rw [decide_eq_true h1, decide_eq_true h2, decide_eq_true h3]
  rfl
theorem Mg.inv_step {g : Int} {D o : List (Int × Int)} {s : Int × Int} (h : Mg.Inv g D o) (hs : Mg.right s = true) (hD : ∀ y ∈ D, y.1 ≤ s.1) : Mg.Inv g (D ++ [s]) (Mg.step g o s) := by
  obtain ⟨h1, h2, h3, h4⟩ := h
  have hle : ∀ x ∈ o, x.1 ≤ s.1 := fun x hx => by
    obtain ⟨y, hy, e⟩ := h3 x hx
    have := hD y hy
    omega
  have hs' := Mg.right_parts hs
  have hat : ∀ i, (∃ x ∈ D ++ [s], Mg.At x i) ↔ (∃ x ∈ D, Mg.At x i) ∨ Mg.At s i := fun i => by
    constructor
    · rintro ⟨x, hx, ha⟩
      rcases List.mem_append.1 hx with hx | hx
      · exact .inl ⟨x, hx, ha⟩
      · rw [List.mem_singleton.1 hx] at ha
        exact .inr ha
    · rintro (⟨x, hx, ha⟩ | ha)
      · exact ⟨x, List.mem_append.2 (.inl hx), ha⟩
      · exact ⟨s, by simp, ha⟩
  have hfar : Mg.Inv g (D ++ [s]) (o ++ [s]) := by
    refine ⟨fun x hx => ?_, ?_, fun x hx => ?_, fun hg0 i => ?_⟩
    · rcases List.mem_append.1 hx with hx | hx
      · exact h1 x hx
      · rw [List.mem_singleton.1 hx]; exact hs
    · rw [List.pairwise_append]
      exact ⟨h2, by simp, fun x hx y hy => by rw [List.mem_singleton.1 hy]; exact hle x hx⟩
    · rcases List.mem_append.1 hx with hx | hx
      · obtain ⟨y, hy, e⟩ := h3 x hx
        exact ⟨y, List.mem_append.2 (.inl hy), e⟩
      · exact ⟨s, by simp, by rw [List.mem_singleton.1 hx]⟩
    · rw [hat i, ← h4 hg0 i]
      constructor
      · rintro ⟨x, hx, ha⟩
        rcases List.mem_append.1 hx with hx | hx
        · exact .inl ⟨x, hx, ha⟩
        · rw [List.mem_singleton.1 hx] at ha
          exact .inr ha
      · rintro (⟨x, hx, ha⟩ | ha)
        · exact ⟨x, List.mem_append.2 (.inl hx), ha⟩
        · exact ⟨s, by simp, ha⟩
  rcases Mg.snoc o with rfl | ⟨q, p, rfl⟩
  · exact hfar
  by_cases hf : g < s.1 - p.2
  · rw [Mg.step_far hf]
    exact hfar
  rw [Mg.step_near hf]
  have hp : p ∈ q ++ [p] := by simp
  have hp1 := Mg.right_parts (h1 p hp)
  have hps := hle p hp
  refine ⟨fun x hx => ?_, ?_, fun x hx => ?_, fun hg0 i => ?_⟩
  · rcases List.mem_append.1 hx with hx | hx
    · exact h1 x (List.mem_append.2 (.inl hx))
    · rw [List.mem_singleton.1 hx]
      refine Mg.right_of ?_ ?_ ?_ <;> dsimp only <;> omega
  · rw [List.pairwise_append] at h2 ⊢
    exact ⟨h2.1, by simp, fun x hx y hy => by rw [List.mem_singleton.1 hy]; exact h2.2.2 x hx p (by simp)⟩
  · rcases List.mem_append.1 hx with hx | hx
    · obtain ⟨y, hy, e⟩ := h3 x (List.mem_append.2 (.inl hx))
      exact ⟨y, List.mem_append.2 (.inl hy), e⟩
    · obtain ⟨y, hy, e⟩ := h3 p hp
      exact ⟨y, List.mem_append.2 (.inl hy), by rw [List.mem_singleton.1 hx]; exact e⟩
  · rw [hat i, ← h4 hg0 i]
    constructor
    · rintro ⟨x, hx, ha⟩
      rcases List.mem_append.1 hx with hx | hx
      · exact .inl ⟨x, List.mem_append.2 (.inl hx), ha⟩
      · rw [List.mem_singleton.1 hx] at ha
        obtain ⟨a1, a2⟩ := ha
        dsimp only at a1 a2
        by_cases hi : i < p.2
        · exact .inl ⟨p, hp, a1, hi⟩
        · exact .inr ⟨by omega, by omega⟩
    · rintro (⟨x, hx, ha⟩ | ⟨a1, a2⟩)
      · rcases List.mem_append.1 hx with hx | hx
        · exact ⟨x, List.mem_append.2 (.inl hx), ha⟩
        · rw [List.mem_singleton.1 hx] at ha
          exact ⟨_, List.mem_append.2 (.inr (List.mem_singleton.2 rfl)), ha.1, by have := ha.2; dsimp only; omega⟩
      · exact ⟨_, List.mem_append.2 (.inr (List.mem_singleton.2 rfl)), by dsimp only; omega, by dsimp only; omega⟩
theorem Mg.inv_take {g : Int} {D : List (Int × Int)} (h1 : ∀ x ∈ D, Mg.right x = true) (h2 : D.Pairwise (fun x y => x.1 ≤ y.1)) : ∀ k, Mg.Inv g (D.take k) (Mg.fold g (D.take k))
  | 0 => ⟨fun x hx => by simp [Mg.fold] at hx, by simp [Mg.fold], fun x hx => by simp [Mg.fold] at hx, fun _ i => by simp [Mg.fold]⟩
  | k + 1 => by
    have ih := Mg.inv_take (g := g) h1 h2 k
    by_cases h : k < D.length
    · rw [Mg.fold_next h]
      have e := List.take_succ_eq_append_getElem h
      rw [e]
      refine Mg.inv_step ih (h1 _ (List.getElem_mem h)) fun y hy => ?_
      have h3 : (D.take (k + 1)).Pairwise (fun x y => x.1 ≤ y.1) := List.Pairwise.sublist (List.take_sublist _ _) h2
      rw [e, List.pairwise_append] at h3
      exact h3.2.2 y hy _ (by simp)
    · rw [List.take_of_length_le (by omega)]
      rw [List.take_of_length_le (by omega)] at ih
      exact ih
theorem Mg.inv {g : Int} {D : List (Int × Int)} (h1 : ∀ x ∈ D, Mg.right x = true) (h2 : D.Pairwise (fun x y => x.1 ≤ y.1)) : Mg.Inv g D (Mg.fold g D) := by
  have h := Mg.inv_take (g := g) h1 h2 D.length
  rwa [List.take_length] at h

/-- what Merge makes of L: of the right ones, in some order by where they begin -/
def Mg.Made (g : Int) (L M : List (Int × Int)) : Prop := ∃ D, D.Perm (L.filter Mg.right) ∧ D.Pairwise (fun x y => x.1 ≤ y.1) ∧ M = Mg.fold g D
theorem Mg.made_inv {g : Int} {L M : List (Int × Int)} (h : Mg.Made g L M) : Mg.Inv g (L.filter Mg.right) M := by
  obtain ⟨D, hp, hs, rfl⟩ := h
  obtain ⟨h1, h2, h3, h4⟩ := Mg.inv (fun x hx => (List.mem_filter.1 (hp.mem_iff.1 hx)).2) hs
  refine ⟨h1, h2, fun x hx => ?_, fun h0 i => (h4 h0 i).trans ?_⟩
  · obtain ⟨y, hy, e⟩ := h3 x hx
    exact ⟨y, hp.mem_iff.1 hy, e⟩
  · exact ⟨fun ⟨x, hx, ha⟩ => ⟨x, hp.mem_iff.1 hx, ha⟩, fun ⟨x, hx, ha⟩ => ⟨x, hp.mem_iff.2 hx, ha⟩⟩

/-- a slice has a byte of L -/
theorem Mg.hit_iff {L : List (Int × Int)} {n s : Int} {k : Nat} (h : Cu.has k n s = true) :
    Cu.hit L n s k = true ↔ ∃ i, (Cu.bd k n s).1 ≤ i ∧ i < (Cu.bd k n s).2 ∧ ∃ x ∈ L.filter Mg.right, Mg.At x i := by
  have hr := Cu.bd_right h
  obtain ⟨b1, b2, _⟩ := Cu.bd_in h
  unfold Cu.hit
  rw [List.any_eq_true]
  constructor
  · rintro ⟨x, hx, hm⟩
    obtain ⟨m1, m2, m3⟩ := Cu.meets_parts hm
    refine ⟨max x.1 (Cu.bd k n s).1, by omega, by omega, x, List.mem_filter.2 ⟨hx, m1⟩, by show _ ≤ _; omega, by omega⟩
  · rintro ⟨i, i1, i2, x, hx, a1, a2⟩
    obtain ⟨hx1, hx2⟩ := List.mem_filter.1 hx
    refine ⟨x, hx1, ?_⟩
    unfold Cu.meets
    rw [show Cr.spanB x.1 x.2 = true from hx2, hr]
    simp
    omega
/-- what ends ahead of a slice is left out; what comes next tells whether the slice has a byte of them -/
theorem Mg.hit_made {L M : List (Int × Int)} {n s : Int} {k j : Nat} (hM : Mg.Made 0 L M) (h : Cu.has k n s = true) (hj : ∀ i (hi : i < M.length), i < j → M[i].2 ≤ (Cu.bd k n s).1) (hj2 : ∀ hi : j < M.length, (Cu.bd k n s).1 < M[j].2) :
    Cu.hit L n s k = (if hi : j < M.length then decide (M[j].1 < (Cu.bd k n s).2) else false) := by
  obtain ⟨h1, h2, h3, h4⟩ := Mg.made_inv hM
  obtain ⟨b1, b2, _⟩ := Cu.bd_in h
  have h5 : Cu.hit L n s k = true ↔ ∃ i, (Cu.bd k n s).1 ≤ i ∧ i < (Cu.bd k n s).2 ∧ ∃ x ∈ M, Mg.At x i := (Mg.hit_iff h).trans
    ⟨fun ⟨i, i1, i2, hx⟩ => ⟨i, i1, i2, (h4 rfl i).2 hx⟩, fun ⟨i, i1, i2, hx⟩ => ⟨i, i1, i2, (h4 rfl i).1 hx⟩⟩
  apply Bool.eq_iff_iff.2
  rw [h5]
  constructor
  · rintro ⟨i, i1, i2, x, hx, a1, a2⟩
    obtain ⟨q, hq, rfl⟩ := List.getElem_of_mem hx
    have hqj : j ≤ q := by
      rcases Nat.lt_or_ge q j with hlt | hge
      · have := hj q hq hlt
        omega
      · exact hge
    have hjl : j < M.length := by omega
    rw [dif_pos hjl]
    apply decide_eq_true
    rcases Nat.eq_or_lt_of_le hqj with rfl | hlt
    · omega
    · have := (List.pairwise_iff_getElem.1 h2) j q hjl hq hlt
      omega
  · intro hd
    by_cases hjl : j < M.length
    · rw [dif_pos hjl] at hd
      have hd1 := of_decide_eq_true hd
      have hd2 := hj2 hjl
      have hr := Mg.right_parts (h1 _ (List.getElem_mem hjl))
      exact ⟨max M[j].1 (Cu.bd k n s).1, by omega, by omega, M[j], List.getElem_mem hjl, by show _ ≤ _; omega, by omega⟩
    · rw [dif_neg hjl] at hd
      cases hd
end Go.Proofs.Ytlonpimnjjkfpaa
