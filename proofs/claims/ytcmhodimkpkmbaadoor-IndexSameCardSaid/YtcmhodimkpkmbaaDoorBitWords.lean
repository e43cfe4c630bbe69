/-
  Plain mathematics of words of 64 bits: the word that tells of a set, bit by bit.
-/
import Derived.WalkKit
namespace Go.Proofs.YtcmhodimkpkmbaaDoor
namespace Bm
/-- the first n bits of word k of a set -/
def wordTo (s : Nat → Bool) (k : Nat) : Nat → Nat
  | 0 => 0
  | n + 1 => wordTo s k n ||| (if s (64 * k + n) then 2 ^ n else 0)
def word (s : Nat → Bool) (k : Nat) : Nat := wordTo s k 64
theorem testBit_wordTo (s : Nat → Bool) (k : Nat) : ∀ n j, (wordTo s k n).testBit j = (decide (j < n) && s (64 * k + j))
  | 0, j => by simp [wordTo]
  | n + 1, j => by
    unfold wordTo
    rw [Nat.testBit_or, testBit_wordTo s k n j]
    by_cases e : n = j
    · subst e
      cases h : s (64 * k + n) <;> simp
    · cases h : s (64 * k + n)
      · simp only [Bool.false_eq_true, if_false, Nat.zero_testBit, Bool.or_false]
        congr 1
        rw [Bool.eq_iff_iff, decide_eq_true_eq, decide_eq_true_eq]
        omega
      · simp only [if_true, Nat.testBit_two_pow, decide_eq_false e, Bool.or_false]
        congr 1
        rw [Bool.eq_iff_iff, decide_eq_true_eq, decide_eq_true_eq]
        omega
theorem testBit_word (s : Nat → Bool) (k j : Nat) : (word s k).testBit j = (decide (j < 64) && s (64 * k + j)) := testBit_wordTo s k 64 j
theorem word_lt (s : Nat → Bool) (k : Nat) : word s k < 18446744073709551616 := by
  have : word s k < 2 ^ 64 := by
    refine Nat.lt_pow_two_of_testBit _ fun j hj => ?_
    rw [testBit_word, decide_eq_false (by omega), Bool.false_and]
  exact this
theorem word_ext {s t : Nat → Bool} {k : Nat} (h : ∀ j, j < 64 → s (64 * k + j) = t (64 * k + j)) : word s k = word t k := by
  refine Nat.eq_of_testBit_eq fun j => ?_
  rw [testBit_word, testBit_word]
  by_cases hj : j < 64
  · rw [h j hj]
  · rw [decide_eq_false hj, Bool.false_and, Bool.false_and]
theorem of_word {s t : Nat → Bool} {k : Nat} (h : word s k = word t k) (j : Nat) (hj : j < 64) : s (64 * k + j) = t (64 * k + j) := by
  have h1 := testBit_word s k j
  rw [h, testBit_word, decide_eq_true hj, Bool.true_and, Bool.true_and] at h1
  exact h1.symm
/-- one bit of it, as the program takes it -/
theorem word_bit (s : Nat → Bool) (k j : Nat) (hj : j < 64) : (word s k / 2 ^ j) % 2 = if s (64 * k + j) then 1 else 0 := by
  have h1 := testBit_word s k j
  rw [decide_eq_true hj, Bool.true_and, Nat.testBit_eq_decide_div_mod_eq] at h1
  rcases Nat.mod_two_eq_zero_or_one (word s k / 2 ^ j) with h | h
  · rw [h] at h1 ⊢
    rw [← h1]
    simp
  · rw [h] at h1 ⊢
    rw [← h1]
    simp
/-- with one number more; without one -/
def ins (s : Nat → Bool) (i : Nat) : Nat → Bool := fun x => s x || decide (x = i)
def del (s : Nat → Bool) (i : Nat) : Nat → Bool := fun x => s x && decide (x ≠ i)
theorem word_ins (s : Nat → Bool) (k j : Nat) (hj : j < 64) : word (ins s (64 * k + j)) k = word s k ||| 2 ^ j := by
  refine Nat.eq_of_testBit_eq fun i => ?_
  rw [Nat.testBit_or, testBit_word, testBit_word, Nat.testBit_two_pow]
  unfold ins
  by_cases hi : i < 64
  · rw [decide_eq_true hi, Bool.true_and, Bool.true_and]
    congr 1
    rw [Bool.eq_iff_iff, decide_eq_true_eq, decide_eq_true_eq]
    omega
  · rw [decide_eq_false hi, Bool.false_and, Bool.false_and, decide_eq_false (by omega)]
    rfl
theorem word_ins_far (s : Nat → Bool) (k i : Nat) (h : i / 64 ≠ k) : word (ins s i) k = word s k := by
  refine word_ext fun j hj => ?_
  unfold ins
  rw [decide_eq_false (by omega), Bool.or_false]
theorem word_del_far (s : Nat → Bool) (k i : Nat) (h : i / 64 ≠ k) : word (del s i) k = word s k := by
  refine word_ext fun j hj => ?_
  unfold del
  rw [decide_eq_true (by omega : 64 * k + j ≠ i), Bool.and_true]
theorem word_or (s t : Nat → Bool) (k : Nat) : word (fun x => s x || t x) k = word s k ||| word t k := by
  refine Nat.eq_of_testBit_eq fun i => ?_
  rw [Nat.testBit_or, testBit_word, testBit_word, testBit_word]
  cases decide (i < 64) <;> rfl
theorem word_and (s t : Nat → Bool) (k : Nat) : word (fun x => s x && t x) k = word s k &&& word t k := by
  refine Nat.eq_of_testBit_eq fun i => ?_
  rw [Nat.testBit_and, testBit_word, testBit_word, testBit_word]
  cases decide (i < 64) <;> simp
/-- what the program takes away: the bits of one, but for those of another -/
theorem word_del (s : Nat → Bool) (k j : Nat) (hj : j < 64) : word (del s (64 * k + j)) k = word s k &&& (18446744073709551615 - 2 ^ j) := by
  refine Nat.eq_of_testBit_eq fun i => ?_
  have hlt : 2 ^ j < 2 ^ 64 := Nat.pow_lt_pow_right (by omega) hj
  rw [Nat.testBit_and, testBit_word, testBit_word, show (18446744073709551615 : Nat) - 2 ^ j = 2 ^ 64 - (2 ^ j + 1) by omega, Nat.testBit_two_pow_sub_succ hlt, Nat.testBit_two_pow]
  unfold del
  by_cases hi : i < 64
  · rw [decide_eq_true hi, Bool.true_and, Bool.true_and, Bool.true_and]
    congr 1
    rw [Bool.eq_iff_iff]
    simp only [Bool.not_eq_true', decide_eq_true_eq, decide_eq_false_iff_not]
    omega
  · rw [decide_eq_false hi, Bool.false_and, Bool.false_and]
    rfl
/-- all words of a set, so many -/
def words (s : Nat → Bool) (n : Nat) : List Nat := (List.range n).map (word s)
theorem words_length (s : Nat → Bool) (n : Nat) : (words s n).length = n := by simp [words]
theorem words_get (s : Nat → Bool) (n k : Nat) (h : k < (words s n).length) : (words s n)[k] = word s k := by simp [words]
theorem words_ext {s t : Nat → Bool} {n : Nat} (h : ∀ x, x < 64 * n → s x = t x) : words s n = words t n := by
  refine List.map_congr_left fun k hk => ?_
  have := List.mem_range.1 hk
  exact word_ext fun j hj => h _ (by omega)
theorem of_words {s t : Nat → Bool} {n : Nat} (h : words s n = words t n) (x : Nat) (hx : x < 64 * n) : s x = t x := by
  have h1 : (words s n)[x / 64]? = (words t n)[x / 64]? := by rw [h]
  rw [List.getElem?_eq_getElem (by rw [words_length]; omega), List.getElem?_eq_getElem (by rw [words_length]; omega), words_get, words_get] at h1
  have h2 := of_word (Option.some.inj h1) (x % 64) (by omega)
  rwa [show 64 * (x / 64) + x % 64 = x by omega] at h2
theorem words_set (s t : Nat → Bool) (n k : Nat) (h : ∀ j, j ≠ k → word t j = word s j) : (words s n).set k (word t k) = words t n := by
  apply List.ext_getElem
  · simp [words_length]
  · intro j h1 h2
    rw [List.getElem_set, words_get]
    by_cases e : k = j
    · subst e
      rw [if_pos rfl, words_get]
    · rw [if_neg e, words_get, h j (fun h => e h.symm)]
end Bm
end Go.Proofs.YtcmhodimkpkmbaaDoor
