/-
  Plain mathematics: the lowest bit of a word.
-/
import Derived.Test.YtcmhodimkpkmbaaDoorBitWords
namespace Go.Proofs.YtcmhodimkpkmbaaDoor
namespace Bm
/-- a number parted at its lowest bit -/
theorem low_parts : ∀ (n x : Nat), x < 2 ^ n → x ≠ 0 → ∃ j q, j < n ∧ x = 2 ^ j * (2 * q + 1)
  | 0, x, h, h0 => by simp at h; omega
  | n + 1, x, h, h0 => by
    rcases Nat.mod_two_eq_zero_or_one x with e | e
    · obtain ⟨j, q, hj, hx⟩ := low_parts n (x / 2) (by rw [Nat.pow_succ] at h; omega) (by omega)
      refine ⟨j + 1, q, by omega, ?_⟩
      have : x = 2 * (x / 2) := by omega
      rw [this, hx, Nat.pow_succ, ← Nat.mul_assoc, Nat.mul_comm 2 (2 ^ j)]
    · exact ⟨0, x / 2, by omega, by simp; omega⟩
theorem low_bit (j q i : Nat) : (2 ^ j * (2 * q + 1)).testBit i = (decide (i = j) || (decide (j < i) && q.testBit (i - j - 1))) := by
  have h := Nat.testBit_two_pow_mul_add (2 * q + 1) (Nat.two_pow_pos j) i
  rw [Nat.add_zero] at h
  rw [h]
  by_cases h1 : i < j
  · rw [if_pos h1, decide_eq_false (by omega : ¬ i = j), decide_eq_false (by omega : ¬ j < i)]
    simp
  · rw [if_neg h1]
    by_cases h2 : i = j
    · subst h2
      rw [Nat.sub_self]
      simp
    · rw [decide_eq_false h2, decide_eq_true (by omega : j < i), show i - j = (i - j - 1) + 1 by omega, Nat.testBit_succ]
      have : (2 * q + 1) / 2 = q := by omega
      rw [this]
      simp
theorem low_pred (j q i : Nat) : (2 ^ j * (2 * q + 1) - 1).testBit i = (decide (i < j) || (decide (j < i) && q.testBit (i - j - 1))) := by
  have hp := Nat.two_pow_pos j
  have e : 2 ^ j * (2 * q + 1) - 1 = 2 ^ j * (2 * q) + (2 ^ j - 1) := by
    rw [Nat.mul_add, Nat.mul_one]
    omega
  rw [e, Nat.testBit_two_pow_mul_add (2 * q) (by omega : 2 ^ j - 1 < 2 ^ j) i]
  by_cases h1 : i < j
  · rw [if_pos h1, Nat.testBit_two_pow_sub_one, decide_eq_true h1]
    simp
  · rw [if_neg h1, decide_eq_false h1]
    by_cases h2 : i = j
    · subst h2
      rw [Nat.sub_self]
      simp
    · rw [decide_eq_true (by omega : j < i), show i - j = (i - j - 1) + 1 by omega, Nat.testBit_succ]
      have : (2 * q) / 2 = q := by omega
      rw [this]
      simp
/-- the lowest bit alone: what x and its negative have in common -/
theorem low_alone (j q : Nat) (hj : j < 64) (hx : 2 ^ j * (2 * q + 1) < 2 ^ 64) : (2 ^ j * (2 * q + 1)) &&& (2 ^ 64 - 2 ^ j * (2 * q + 1)) = 2 ^ j := by
  have hp := Nat.two_pow_pos j
  have h0 : 0 < 2 ^ j * (2 * q + 1) := Nat.mul_pos hp (by omega)
  refine Nat.eq_of_testBit_eq fun i => ?_
  have h1 : 2 ^ 64 - 2 ^ j * (2 * q + 1) = 2 ^ 64 - ((2 ^ j * (2 * q + 1) - 1) + 1) := by omega
  rw [Nat.testBit_and, h1, Nat.testBit_two_pow_sub_succ (by omega), low_pred, low_bit, Nat.testBit_two_pow]
  by_cases h2 : i = j
  · subst h2
    simp [hj]
  · rw [decide_eq_false h2, decide_eq_false (fun h : j = i => h2 h.symm)]
    by_cases h3 : j < i
    · rw [decide_eq_true h3, decide_eq_false (by omega : ¬ i < j)]
      cases q.testBit (i - j - 1) <;> simp
    · rw [decide_eq_false h3]
      simp
/-- the lowest bit of a word of a set: the number; what is left without it -/
theorem word_low (s : Nat → Bool) (k : Nat) (h : word s k ≠ 0) : ∃ j, j < 64 ∧ s (64 * k + j) = true ∧ (∀ i, i < j → s (64 * k + i) = false) ∧
    word s k &&& (18446744073709551616 - word s k) = 2 ^ j ∧ word s k &&& (word s k - 1) = word (fun x => s x && decide (64 * k + j + 1 ≤ x)) k := by
  have hl : word s k < 2 ^ 64 := word_lt s k
  obtain ⟨j, q, hj, hx⟩ := low_parts 64 (word s k) hl h
  have hb : ∀ i, i < 64 → s (64 * k + i) = (decide (i = j) || (decide (j < i) && q.testBit (i - j - 1))) := by
    intro i hi
    have h1 := testBit_word s k i
    rw [decide_eq_true hi, Bool.true_and] at h1
    rw [← h1, hx, low_bit]
  refine ⟨j, hj, ?_, ?_, ?_, ?_⟩
  · rw [hb j hj]; simp
  · intro i hi
    rw [hb i (by omega), decide_eq_false (by omega : ¬ i = j), decide_eq_false (by omega : ¬ j < i)]
    rfl
  · have := low_alone j q hj (by rw [← hx]; exact hl)
    rw [← hx] at this
    exact this
  · refine Nat.eq_of_testBit_eq fun i => ?_
    rw [Nat.testBit_and, testBit_word, testBit_word]
    by_cases hi : i < 64
    · rw [decide_eq_true hi, Bool.true_and, Bool.true_and, hb i hi]
      conv => lhs; rw [hx]
      rw [low_pred]
      by_cases h2 : i = j
      · subst h2
        simp
      · rw [decide_eq_false h2]
        by_cases h3 : j < i
        · rw [decide_eq_true h3, decide_eq_false (by omega : ¬ i < j), decide_eq_true (by omega : 64 * k + j + 1 ≤ 64 * k + i)]
          simp
        · rw [decide_eq_false h3]
          simp
    · rw [decide_eq_false hi, Bool.false_and, Bool.false_and, Bool.false_and]
theorem word_zero (s : Nat → Bool) (k : Nat) (h : word s k = 0) (j : Nat) (hj : j < 64) : s (64 * k + j) = false := by
  have h1 := testBit_word s k j
  rw [h, decide_eq_true hj, Bool.true_and, Nat.zero_testBit] at h1
  exact h1.symm
end Bm
end Go.Proofs.YtcmhodimkpkmbaaDoor
