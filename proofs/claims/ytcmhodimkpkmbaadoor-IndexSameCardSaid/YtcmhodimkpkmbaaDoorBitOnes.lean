/-
  Plain mathematics: how many bits of a word are set, as the library reckons it, byte by byte.
-/
import Derived.Test.YtcmhodimkpkmbaaDoorBitWords
namespace Go.Proofs.YtcmhodimkpkmbaaDoor
namespace Bm
/-- the ones of a byte -/
def ones8 (b : Nat) : Nat := b % 2 + b / 2 % 2 + b / 4 % 2 + b / 8 % 2 + b / 16 % 2 + b / 32 % 2 + b / 64 % 2 + b / 128 % 2
/-- a mask of n bytes, each m -/
def mask (m : Nat) : Nat → Nat
  | 0 => 0
  | n + 1 => m + 256 * mask m n
/-- what x has at a mask, byte by byte -/
theorem and_mask (x m n : Nat) (hm : m < 256) : x &&& mask m (n + 1) = (x % 256 &&& m) + 256 * (x / 256 &&& mask m n) := by
  have h1 : (x &&& mask m (n + 1)) % 256 = x % 256 &&& m := by
    have := Nat.and_mod_two_pow (a := x) (b := mask m (n + 1)) (n := 8)
    rw [show (2 : Nat) ^ 8 = 256 from rfl] at this
    rw [this, mask]
    congr 1
    omega
  have h2 : (x &&& mask m (n + 1)) / 256 = x / 256 &&& mask m n := by
    have := Nat.and_div_two_pow (a := x) (b := mask m (n + 1)) (n := 8)
    rw [show (2 : Nat) ^ 8 = 256 from rfl] at this
    rw [this, mask]
    congr 1
    omega
  omega
def st1 (n x : Nat) : Nat := (x / 2 &&& mask 85 n) + (x &&& mask 85 n)
def st2 (n x : Nat) : Nat := (x / 4 &&& mask 51 n) + (x &&& mask 51 n)
def st3 (n x : Nat) : Nat := (x / 16 + x) &&& mask 15 n
theorem low1 : ∀ b, b < 128 → ∀ c, c < 2 → ((b + 128 * c) &&& 85) = (b &&& 85) := by decide
theorem low2 : ∀ b, b < 64 → ∀ c, c < 4 → ((b + 64 * c) &&& 51) = (b &&& 51) := by decide
def f1 (b : Nat) : Nat := (b / 2 &&& 85) + (b &&& 85)
def f2 (b : Nat) : Nat := (b / 4 &&& 51) + (b &&& 51)
theorem byte_all : ∀ b, b < 256 → f1 b < 256 ∧ f2 (f1 b) ≤ 68 ∧ f2 (f1 b) % 16 ≤ 4 ∧ (f2 (f1 b) / 16 + f2 (f1 b)) % 16 = ones8 b := by decide +kernel
theorem st1_succ (n x : Nat) : st1 (n + 1) x = f1 (x % 256) + 256 * st1 n (x / 256) := by
  unfold st1 f1
  rw [and_mask _ 85 n (by omega), and_mask _ 85 n (by omega), show x / 2 / 256 = x / 256 / 2 by omega, show x / 2 % 256 = x % 256 / 2 + 128 * (x / 256 % 2) by omega, low1 _ (by omega) _ (by omega)]
  omega
theorem st2_succ (n x : Nat) : st2 (n + 1) x = f2 (x % 256) + 256 * st2 n (x / 256) := by
  unfold st2 f2
  rw [and_mask _ 51 n (by omega), and_mask _ 51 n (by omega), show x / 4 / 256 = x / 256 / 4 by omega, show x / 4 % 256 = x % 256 / 4 + 64 * (x / 256 % 4) by omega, low2 _ (by omega) _ (by omega)]
  omega
theorem st21_succ (n x : Nat) : st2 (n + 1) (st1 (n + 1) x) = f2 (f1 (x % 256)) + 256 * st2 n (st1 n (x / 256)) := by
  have hb := (byte_all (x % 256) (by omega)).1
  have e := st1_succ n x
  rw [st2_succ, show st1 (n + 1) x % 256 = f1 (x % 256) by omega, show st1 (n + 1) x / 256 = st1 n (x / 256) by omega]
theorem st21_low (n x : Nat) : st2 n (st1 n x) % 16 ≤ 4 := by
  cases n with
  | zero => simp [st2, st1, mask]
  | succ n =>
    rw [st21_succ]
    have := byte_all (x % 256) (by omega)
    omega
theorem and15 (x : Nat) : x &&& 15 = x % 16 := Nat.and_two_pow_sub_one_eq_mod x 4
/-- how many bits of n bytes are set, in bytes -/
def onesB (n x : Nat) : Nat := st3 n (st2 n (st1 n x))
theorem onesB_succ (n x : Nat) : onesB (n + 1) x = ones8 (x % 256) + 256 * onesB n (x / 256) := by
  have h := byte_all (x % 256) (by omega)
  have hl := st21_low n (x / 256)
  unfold onesB st3
  rw [st21_succ]
  generalize f2 (f1 (x % 256)) = c at *
  generalize st2 n (st1 n (x / 256)) = y at *
  rw [and_mask _ 15 n (by omega), and15, show ((c + 256 * y) / 16 + (c + 256 * y)) / 256 = y / 16 + y by omega, show ((c + 256 * y) / 16 + (c + 256 * y)) % 256 % 16 = (c / 16 + c) % 16 by omega, h.2.2.2]
theorem ones8_le (b : Nat) : ones8 b ≤ 8 := by unfold ones8; omega
/-- how many of the first so many are so -/
def cnt (f : Nat → Bool) : Nat → Nat
  | 0 => 0
  | n + 1 => cnt f n + (f n).toNat
theorem cnt_add (f : Nat → Bool) (a : Nat) : ∀ b, cnt f (a + b) = cnt f a + cnt (fun j => f (a + j)) b
  | 0 => rfl
  | b + 1 => by
    rw [show a + (b + 1) = (a + b) + 1 by omega, cnt, cnt_add f a b, cnt]
    omega
theorem cnt_ext {f g : Nat → Bool} : ∀ n, (∀ j, j < n → f j = g j) → cnt f n = cnt g n
  | 0, _ => rfl
  | n + 1, h => by rw [cnt, cnt, cnt_ext n (fun j hj => h j (by omega)), h n (by omega)]
theorem cnt_le (f : Nat → Bool) : ∀ n, cnt f n ≤ n
  | 0 => Nat.le_refl _
  | n + 1 => by
    have := cnt_le f n
    rw [cnt]
    cases f n <;> simp <;> omega
theorem bit_nat (x j : Nat) : (x.testBit j).toNat = x / 2 ^ j % 2 := by
  rw [Nat.testBit_eq_decide_div_mod_eq]
  rcases Nat.mod_two_eq_zero_or_one (x / 2 ^ j) with h | h <;> simp [h]
theorem cnt_ones8 (x : Nat) : cnt x.testBit 8 = ones8 (x % 256) := by
  simp only [cnt, bit_nat]
  unfold ones8
  simp only [Nat.reducePow]
  omega
theorem cnt_byte (x n : Nat) : cnt x.testBit (8 * (n + 1)) = ones8 (x % 256) + cnt (x / 256).testBit (8 * n) := by
  rw [show 8 * (n + 1) = 8 + 8 * n by omega, cnt_add, cnt_ones8]
  congr 1
  refine cnt_ext _ fun j _ => ?_
  rw [show (256 : Nat) = 2 ^ 8 from rfl, Nat.testBit_div_two_pow, Nat.add_comm]
theorem fold_two (d0 d1 d2 d3 d4 d5 d6 d7 b1 b2 b3 b4 b5 b6 z z1 z2 : Nat)
    (h6 : b6 = d6 + 256 * d7) (h5 : b5 = d5 + 256 * b6) (h4 : b4 = d4 + 256 * b5) (h3 : b3 = d3 + 256 * b4) (h2 : b2 = d2 + 256 * b3) (h1 : b1 = d1 + 256 * b2) (h0 : z = d0 + 256 * b1)
    (g1 : z1 = z + b1) (g2 : z2 = z1 + (b2 + b3)) : z2 = ((d0 + d1 + d2 + d3) + 256 * (d1 + d2 + d3 + d4) + 65536 * (d2 + d3 + d4 + d5) + 16777216 * (d3 + d4 + d5 + d6)) + 4294967296 * (b4 + b5 + b6 + d7) := by
  subst h6 h5 h4 h3 h2 h1 h0 g1 g2
  omega
theorem fold_one (d0 d1 b1 b2 b3 d2 z z1 : Nat) (l0 : d0 ≤ 8) (l1 : d1 ≤ 8) (l2 : d2 ≤ 8) (h2 : b2 = d2 + 256 * b3) (h1 : b1 = d1 + 256 * b2) (h0 : z = d0 + 256 * b1) (g1 : z1 = z + b1) : z1 / 65536 = b2 + b3 := by
  have e1 : z1 = ((d0 + d1) + 256 * (d1 + d2)) + 65536 * (b2 + b3) := by subst h2 h1 h0 g1; omega
  have e2 : (d0 + d1) + 256 * (d1 + d2) < 65536 := by omega
  generalize (d0 + d1) + 256 * (d1 + d2) = u at *
  clear h2 h1 h0 g1 l0 l1 l2
  omega
theorem fold_last (s0 s1 s2 s3 s4 b r z2 : Nat) (u0 : s0 ≤ 32) (u1 : s1 ≤ 32) (u2 : s2 ≤ 32) (u3 : s3 ≤ 32) (u4 : s4 ≤ 32) (e3 : b = s4 + 256 * r) (e2 : z2 = (s0 + 256 * s1 + 65536 * s2 + 16777216 * s3) + 4294967296 * b) : (z2 + z2 / 4294967296) % 128 = s0 + s4 := by
  have q3 : z2 / 4294967296 = b := by
    have : s0 + 256 * s1 + 65536 * s2 + 16777216 * s3 < 4294967296 := by omega
    generalize s0 + 256 * s1 + 65536 * s2 + 16777216 * s3 = u at *
    clear u0 u1 u2 u3 u4 e3
    omega
  rw [q3, e2, e3]
  omega
theorem fold_three (d4 d5 d6 d7 b4 b5 b6 : Nat) (h6 : b6 = d6 + 256 * d7) (h5 : b5 = d5 + 256 * b6) (h4 : b4 = d4 + 256 * b5) : b4 + b5 + b6 + d7 = (d4 + d5 + d6 + d7) + 256 * (b5 + b6 + d7) := by omega
theorem fold_zero (d0 b1 z : Nat) (l0 : d0 ≤ 8) (h0 : z = d0 + 256 * b1) : z / 256 = b1 := by omega
theorem bound_one (d b B : Nat) (h : d ≤ 8) (hb : b ≤ B) : d + 256 * b ≤ 8 + 256 * B := by omega
/-- what the library makes of it at last -/
theorem fold_digits (d0 d1 d2 d3 d4 d5 d6 d7 b1 b2 b3 b4 b5 b6 z z1 z2 : Nat) (l0 : d0 ≤ 8) (l1 : d1 ≤ 8) (l2 : d2 ≤ 8) (l3 : d3 ≤ 8) (l4 : d4 ≤ 8) (l5 : d5 ≤ 8) (l6 : d6 ≤ 8) (l7 : d7 ≤ 8)
    (h6 : b6 = d6 + 256 * d7) (h5 : b5 = d5 + 256 * b6) (h4 : b4 = d4 + 256 * b5) (h3 : b3 = d3 + 256 * b4) (h2 : b2 = d2 + 256 * b3) (h1 : b1 = d1 + 256 * b2) (h0 : z = d0 + 256 * b1)
    (g1 : z1 = z + z / 256) (g2 : z2 = z1 + z1 / 65536) : z ≤ 578721382704613384 ∧ b1 ≤ 2260630401189896 ∧ z1 = z + b1 ∧ (z2 + z2 / 4294967296) % 128 = d0 + d1 + d2 + d3 + d4 + d5 + d6 + d7 := by
  have m6 : b6 ≤ 2056 := by rw [h6]; exact Nat.le_trans (bound_one d6 d7 8 l6 l7) (by decide)
  have m5 : b5 ≤ 526344 := by rw [h5]; exact Nat.le_trans (bound_one d5 b6 2056 l5 m6) (by decide)
  have m4 : b4 ≤ 134744072 := by rw [h4]; exact Nat.le_trans (bound_one d4 b5 526344 l4 m5) (by decide)
  have m3 : b3 ≤ 34494482440 := by rw [h3]; exact Nat.le_trans (bound_one d3 b4 134744072 l3 m4) (by decide)
  have m2 : b2 ≤ 8830587504648 := by rw [h2]; exact Nat.le_trans (bound_one d2 b3 34494482440 l2 m3) (by decide)
  have m1 : b1 ≤ 2260630401189896 := by rw [h1]; exact Nat.le_trans (bound_one d1 b2 8830587504648 l1 m2) (by decide)
  have m0 : z ≤ 578721382704613384 := by rw [h0]; exact Nat.le_trans (bound_one d0 b1 2260630401189896 l0 m1) (by decide)
  have q1 : z / 256 = b1 := fold_zero _ _ _ l0 h0
  rw [q1] at g1
  rw [fold_one d0 d1 b1 b2 b3 d2 z z1 l0 l1 l2 h2 h1 h0 g1] at g2
  refine ⟨m0, m1, g1, ?_⟩
  have e2 := fold_two d0 d1 d2 d3 d4 d5 d6 d7 b1 b2 b3 b4 b5 b6 z z1 z2 h6 h5 h4 h3 h2 h1 h0 g1 g2
  have e3 : b4 + b5 + b6 + d7 = (d4 + d5 + d6 + d7) + 256 * (b5 + b6 + d7) := fold_three _ _ _ _ _ _ _ h6 h5 h4
  clear h6 h5 h4 h3 h2 h1 h0 g1 g2 m6 m5 m4 m3 m2 m1 m0 q1
  rw [show d0 + d1 + d2 + d3 + d4 + d5 + d6 + d7 = (d0 + d1 + d2 + d3) + (d4 + d5 + d6 + d7) by omega]
  exact fold_last _ _ _ _ _ _ _ z2 (by omega) (by omega) (by omega) (by omega) (by omega) e3 e2
theorem ones_word (x z z1 z2 : Nat) (hz : z = onesB 8 x) (g1 : z1 = z + z / 256) (g2 : z2 = z1 + z1 / 65536) : z ≤ 578721382704613384 ∧ z1 < 4611686018427387904 ∧ z2 < 4611686018427387904 ∧ z2 + z2 / 4294967296 < 9223372036854775808 ∧ (z2 + z2 / 4294967296) % 128 = cnt x.testBit 64 := by
  have e0 := cnt_byte x 7
  have e1 := cnt_byte (x / 256) 6
  have e2 := cnt_byte (x / 256 / 256) 5
  have e3 := cnt_byte (x / 256 / 256 / 256) 4
  have e4 := cnt_byte (x / 256 / 256 / 256 / 256) 3
  have e5 := cnt_byte (x / 256 / 256 / 256 / 256 / 256) 2
  have e6 := cnt_byte (x / 256 / 256 / 256 / 256 / 256 / 256) 1
  have e7 := cnt_byte (x / 256 / 256 / 256 / 256 / 256 / 256 / 256) 0
  simp only [Nat.reduceMul, Nat.reduceAdd] at e0 e1 e2 e3 e4 e5 e6 e7
  have hn : ∀ y, onesB 0 y = 0 := fun y => by simp [onesB, st3, mask]
  have b7 := onesB_succ 0 (x / 256 / 256 / 256 / 256 / 256 / 256 / 256)
  have b6 := onesB_succ 1 (x / 256 / 256 / 256 / 256 / 256 / 256)
  have b5 := onesB_succ 2 (x / 256 / 256 / 256 / 256 / 256)
  have b4 := onesB_succ 3 (x / 256 / 256 / 256 / 256)
  have b3 := onesB_succ 4 (x / 256 / 256 / 256)
  have b2 := onesB_succ 5 (x / 256 / 256)
  have b1 := onesB_succ 6 (x / 256)
  have b0 := onesB_succ 7 x
  simp only [Nat.reduceAdd] at b0 b1 b2 b3 b4 b5 b6 b7
  rw [hn, Nat.mul_zero, Nat.add_zero] at b7
  rw [b7] at b6
  have h := fold_digits _ _ _ _ _ _ _ _ _ _ _ _ _ _ z z1 z2 (ones8_le (x % 256)) (ones8_le (x / 256 % 256)) (ones8_le (x / 256 / 256 % 256)) (ones8_le (x / 256 / 256 / 256 % 256)) (ones8_le (x / 256 / 256 / 256 / 256 % 256))
    (ones8_le (x / 256 / 256 / 256 / 256 / 256 % 256)) (ones8_le (x / 256 / 256 / 256 / 256 / 256 / 256 % 256)) (ones8_le (x / 256 / 256 / 256 / 256 / 256 / 256 / 256 % 256)) b6 b5 b4 b3 b2 b1 (hz.trans b0) g1 g2
  have e8 : cnt (x / 256 / 256 / 256 / 256 / 256 / 256 / 256 / 256).testBit 0 = 0 := rfl
  rw [e8] at e7
  clear b0 b1 b2 b3 b4 b5 b6 b7 hn
  obtain ⟨h1, h2, h3, h5⟩ := h
  refine ⟨h1, ?_, ?_, ?_, ?_⟩
  · clear e0 e1 e2 e3 e4 e5 e6 e7 h5 g1 g2; omega
  · clear e0 e1 e2 e3 e4 e5 e6 e7 h5 g1; omega
  · clear e0 e1 e2 e3 e4 e5 e6 e7 h5 g1; omega
  · rw [h5, e0, e1, e2, e3, e4, e5, e6, e7]
    simp only [Nat.add_assoc, Nat.add_zero]
end Bm
end Go.Proofs.YtcmhodimkpkmbaaDoor
