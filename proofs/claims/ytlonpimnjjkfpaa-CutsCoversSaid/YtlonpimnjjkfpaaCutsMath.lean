/-
  Plain mathematics of slices: which may be, which bytes each is, what two spans have in common, which slices have a byte of some spans.
-/
import Derived.Test.YtlonpimnjjkfpaaSpanRight
namespace Go.Proofs.Ytlonpimnjjkfpaa

def Cu.ok (n s : Int) : Bool := decide (0 ≤ n) && decide (n ≤ 4096) && decide (1 ≤ s) && decide (s ≤ 64)
def Cu.has (i n s : Int) : Bool := Cu.ok n s && decide (0 ≤ i) && decide (i * s < n)
def Cu.bd (i n s : Int) : Int × Int := if Cu.has i n s then (i * s, min (i * s + s) n) else (0, 0)
def Cu.cnt (n s : Int) : Int := if Cu.ok n s then (n + s - 1) / s else 0
def Cu.both (a b c d : Int) : Int × Int := (max a c, min b d)
def Cu.meets (a b c d : Int) : Bool := Cr.spanB a b && Cr.spanB c d && decide (max a c < min b d)
def Cu.meet (a b c d : Int) : Int × Int := if Cu.meets a b c d then Cu.both a b c d else (0, 0)

theorem Cu.ok_parts {n s : Int} (h : Cu.ok n s = true) : 0 ≤ n ∧ n ≤ 4096 ∧ 1 ≤ s ∧ s ≤ 64 := by
  unfold Cu.ok at h
  simp at h
  omega
theorem Cu.ok_of {n s : Int} (h1 : 0 ≤ n) (h2 : n ≤ 4096) (h3 : 1 ≤ s) (h4 : s ≤ 64) : Cu.ok n s = true := by
  unfold Cu.ok
  simp [h1, h2, h3, h4]
theorem Cu.has_parts {i n s : Int} (h : Cu.has i n s = true) : Cu.ok n s = true ∧ 0 ≤ i ∧ i * s < n := by
  unfold Cu.has at h
  simpa [and_assoc] using h
theorem Cu.has_of {i n s : Int} (h : Cu.ok n s = true) (h1 : 0 ≤ i) (h2 : i * s < n) : Cu.has i n s = true := by
  unfold Cu.has
  simp [h, h1, h2]
theorem Cu.mul_ge {i s : Int} (hi : 0 ≤ i) (hs : 1 ≤ s) : i ≤ i * s := by
  have := Int.mul_le_mul_of_nonneg_left hs hi
  rwa [Int.mul_one] at this
theorem Cu.mul_le {i s : Int} (hi : 0 ≤ i) (hm : i ≤ 4096) (hs : 1 ≤ s) (h : s ≤ 64) : 0 ≤ i * s ∧ i * s ≤ 262144 := by
  have h1 := Int.mul_nonneg hi (show 0 ≤ s by omega)
  have h2 : i * s ≤ 4096 * 64 := Int.mul_le_mul hm h (by omega) (by omega)
  omega
theorem Cu.has_i {i n s : Int} (h : Cu.has i n s = true) : i < 4096 := by
  obtain ⟨h1, h2, h3⟩ := Cu.has_parts h
  obtain ⟨_, h5, h6, _⟩ := Cu.ok_parts h1
  have := Cu.mul_ge h2 h6
  omega
/-- there are as many slices as are counted -/
theorem Cu.has_cnt (i n s : Int) (hi : 0 ≤ i) : Cu.has i n s = decide (i < Cu.cnt n s) := by
  unfold Cu.has Cu.cnt
  cases h : Cu.ok n s with
  | false => simp; omega
  | true =>
    obtain ⟨h1, h2, h3, h4⟩ := Cu.ok_parts h
    simp only [Bool.true_and, decide_eq_true hi, if_true]
    apply decide_eq_decide.2
    have := Int.le_ediv_iff_mul_le (a := i + 1) (b := n + s - 1) (c := s) (by omega)
    rw [Int.add_mul, Int.one_mul] at this
    omega
theorem Cu.cnt_le (n s : Int) : 0 ≤ Cu.cnt n s ∧ Cu.cnt n s ≤ 4096 := by
  unfold Cu.cnt
  cases h : Cu.ok n s with
  | false => simp
  | true =>
    obtain ⟨h1, h2, h3, h4⟩ := Cu.ok_parts h
    simp only [if_true]
    have h5 : 0 ≤ (n + s - 1) / s := Int.ediv_nonneg (by omega) (by omega)
    refine ⟨h5, ?_⟩
    rcases Int.lt_or_le 4096 ((n + s - 1) / s) with hq | hq
    · have := (Int.le_ediv_iff_mul_le (a := 4097) (b := n + s - 1) (c := s) (by omega)).1 hq
      omega
    · exact hq
theorem Cu.bd_yes {i n s : Int} (h : Cu.has i n s = true) : Cu.bd i n s = (i * s, min (i * s + s) n) := by unfold Cu.bd; rw [if_pos h]
theorem Cu.bd_no {i n s : Int} (h : Cu.has i n s = false) : Cu.bd i n s = (0, 0) := by unfold Cu.bd; rw [h]; rfl
/-- a slice is a span that may be, within the object, and no longer than a slice is -/
theorem Cu.bd_in {i n s : Int} (h : Cu.has i n s = true) : 0 ≤ (Cu.bd i n s).1 ∧ (Cu.bd i n s).1 < (Cu.bd i n s).2 ∧ (Cu.bd i n s).2 ≤ n ∧ (Cu.bd i n s).2 - (Cu.bd i n s).1 ≤ s ∧ n ≤ 4096 := by
  obtain ⟨h1, h2, h3⟩ := Cu.has_parts h
  obtain ⟨_, h5, h6, h7⟩ := Cu.ok_parts h1
  obtain ⟨h8, h9⟩ := Cu.mul_le h2 (by have := Cu.has_i h; omega) h6 h7
  rw [Cu.bd_yes h]
  dsimp only
  omega
theorem Cu.bd_right {i n s : Int} (h : Cu.has i n s = true) : Cr.spanB (Cu.bd i n s).1 (Cu.bd i n s).2 = true := by
  obtain ⟨h1, h2, h3, h4, h5⟩ := Cu.bd_in h
  unfold Cr.spanB
  rw [decide_eq_true h1, decide_eq_true h2, decide_eq_true (by omega)]
  rfl
theorem Cu.bd_to (i n s : Int) : decide (0 < (Cu.bd i n s).2) = Cu.has i n s := by
  cases h : Cu.has i n s with
  | false => rw [Cu.bd_no h]; rfl
  | true =>
    obtain ⟨h1, h2, _⟩ := Cu.bd_in h
    exact decide_eq_true (by omega)
theorem Cu.bd_zero (i n s : Int) : ((Cu.bd i n s).2 == 0) = !Cu.has i n s := by
  cases h : Cu.has i n s with
  | false => rw [Cu.bd_no h]; rfl
  | true =>
    obtain ⟨h1, h2, _⟩ := Cu.bd_in h
    have : ¬ (Cu.bd i n s).2 = 0 := by omega
    simpa using this
/-- each slice begins where the one ahead of it ends; the last one ends with the object -/
theorem Cu.bd_next {i n s : Int} (hi : 0 ≤ i) (h : Cu.has (i + 1) n s = true) : Cu.has i n s = true ∧ (Cu.bd i n s).2 = (Cu.bd (i + 1) n s).1 := by
  obtain ⟨h1, h2, h3⟩ := Cu.has_parts h
  obtain ⟨_, h5, h6, h7⟩ := Cu.ok_parts h1
  rw [Int.add_mul, Int.one_mul] at h3
  have h8 := Cu.has_of h1 hi (show i * s < n by omega)
  refine ⟨h8, ?_⟩
  rw [Cu.bd_yes h8, Cu.bd_yes h, Int.add_mul, Int.one_mul]
  dsimp only
  omega
theorem Cu.bd_last {i n s : Int} (h : Cu.has i n s = true) (hn : Cu.has (i + 1) n s = false) : (Cu.bd i n s).2 = n := by
  obtain ⟨h1, h2, h3⟩ := Cu.has_parts h
  rw [Cu.bd_yes h]
  dsimp only
  have : ¬ (i + 1) * s < n := fun hc => by
    rw [Cu.has_of h1 (by omega) hc] at hn
    cases hn
  rw [Int.add_mul, Int.one_mul] at this
  omega
theorem Cu.bd_first {n s : Int} (h : Cu.has 0 n s = true) : (Cu.bd 0 n s).1 = 0 := by rw [Cu.bd_yes h]; dsimp only; omega
theorem Cu.has_zero {n s : Int} (h : Cu.ok n s = true) : Cu.has 0 n s = decide (0 < n) := by
  unfold Cu.has
  simp [h]

/-- what two have in common is a span that may be, or none -/
theorem Cu.meets_parts {a b c d : Int} (h : Cu.meets a b c d = true) : Cr.spanB a b = true ∧ Cr.spanB c d = true ∧ max a c < min b d := by
  unfold Cu.meets at h
  simpa [and_assoc] using h
theorem Cu.meet_to (a b c d : Int) : decide (0 < (Cu.meet a b c d).2) = Cu.meets a b c d := by
  unfold Cu.meet
  cases h : Cu.meets a b c d with
  | false => rfl
  | true =>
    obtain ⟨h1, h2, h3⟩ := Cu.meets_parts h
    have := spanB_parts h1
    have := spanB_parts h2
    simp only [if_true, Cu.both]
    exact decide_eq_true (by omega)
theorem Cu.meets_both {a b c d : Int} (h1 : Cr.spanB a b = true) (h2 : Cr.spanB c d = true) : Cr.spanB (max a c) (min b d) = decide (max a c < min b d) := by
  have := spanB_parts h1
  have := spanB_parts h2
  unfold Cr.spanB
  rw [decide_eq_true (show 0 ≤ max a c by omega), decide_eq_true (show min b d ≤ 4611686018427387903 by omega)]
  simp
theorem Cu.meets_none (a b : Int) : Cu.meets a b 0 0 = false := by
  unfold Cu.meets
  rw [show Cr.spanB 0 0 = false from rfl]
  simp

/-- the slices up to k that have a byte of L -/
def Cu.hit (L : List (Int × Int)) (n s : Int) (k : Nat) : Bool := L.any fun x => Cu.meets x.1 x.2 (Cu.bd k n s).1 (Cu.bd k n s).2
def Cu.cover (L : List (Int × Int)) (n s : Int) (k : Nat) : List Int := ((List.range k).filter (Cu.hit L n s)).map Int.ofNat
theorem Cu.cover_zero (L : List (Int × Int)) (n s : Int) : Cu.cover L n s 0 = [] := rfl
theorem Cu.cover_yes {L : List (Int × Int)} {n s : Int} {k : Nat} (h : Cu.hit L n s k = true) : Cu.cover L n s (k + 1) = Cu.cover L n s k ++ [(k : Int)] := by
  unfold Cu.cover
  rw [List.range_succ, List.filter_append, List.map_append]
  simp [h]
theorem Cu.cover_no {L : List (Int × Int)} {n s : Int} {k : Nat} (h : Cu.hit L n s k = false) : Cu.cover L n s (k + 1) = Cu.cover L n s k := by
  unfold Cu.cover
  rw [List.range_succ, List.filter_append, List.map_append]
  simp [h]
theorem Cu.cover_le (L : List (Int × Int)) (n s : Int) (k : Nat) : (Cu.cover L n s k).length ≤ k := by
  unfold Cu.cover
  rw [List.length_map]
  exact Nat.le_trans (List.length_filter_le _ _) (by simp)
theorem Cu.hit_none (L : List (Int × Int)) (n s : Int) (k : Nat) (h : Cu.has k n s = false) : Cu.hit L n s k = false := by
  unfold Cu.hit
  rw [Cu.bd_no h]
  simp [Cu.meets_none]
end Go.Proofs.Ytlonpimnjjkfpaa
