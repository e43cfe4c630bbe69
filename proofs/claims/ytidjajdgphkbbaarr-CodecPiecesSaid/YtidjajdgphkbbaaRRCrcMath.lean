/-
  Plain mathematics of the sum of layer 2: a register of 32 bits, byte by byte. Nothing of the program is imported.
-/
namespace Go.Proofs.YtidjajdgphkbbaaRR.Cm

def poly : Nat := 3988292384
def step (c : Nat) : Nat := if c % 2 = 1 then (c / 2) ^^^ poly else c / 2
def steps : Nat → Nat → Nat
  | 0, c => c
  | k + 1, c => steps k (step c)
def next (c : Nat) (b : UInt8) : Nat := steps 8 (c ^^^ b.toNat)
def many : Nat → List UInt8 → Nat
  | c, [] => c
  | c, x :: l => many (next c x) l
def ones : Nat := 4294967295
def sum (l : List UInt8) : Nat := many ones l ^^^ ones
def low (n k : Nat) : UInt8 := UInt8.ofNat (n / 2 ^ k)
/-- the four bytes of a sum, the lowest first -/
def four (n : Nat) : List UInt8 := [low n 0, low n 8, low n 16, low n 24]
def sealed (l : List UInt8) : List UInt8 := l ++ four (sum l)

theorem poly_lt : poly < 2 ^ 32 := by decide
theorem step_odd {c : Nat} (h : c % 2 = 1) : step c = (c / 2) ^^^ poly := if_pos h
theorem step_even {c : Nat} (h : c % 2 = 0) : step c = c / 2 := if_neg (by omega)
theorem step_lt {c : Nat} (h : c < 2 ^ 32) : step c < 2 ^ 32 := by
  unfold step
  split
  · exact Nat.xor_lt_two_pow (by omega) poly_lt
  · omega
theorem steps_lt (k : Nat) : ∀ {c : Nat}, c < 2 ^ 32 → steps k c < 2 ^ 32 := by
  induction k with
  | zero => intro c h; exact h
  | succ k ih => intro c h; exact ih (step_lt h)
theorem byte_lt (b : UInt8) : b.toNat < 2 ^ 32 := by have := b.toNat_lt; omega
theorem next_lt {c : Nat} (b : UInt8) (h : c < 2 ^ 32) : next c b < 2 ^ 32 := steps_lt 8 (Nat.xor_lt_two_pow h (byte_lt b))
theorem many_lt (l : List UInt8) : ∀ {c : Nat}, c < 2 ^ 32 → many c l < 2 ^ 32 := by
  induction l with
  | nil => intro c h; exact h
  | cons x l ih => intro c h; exact ih (next_lt x h)
theorem ones_lt : ones < 2 ^ 32 := by decide
theorem sum_lt (l : List UInt8) : sum l < 2 ^ 32 := Nat.xor_lt_two_pow (many_lt l ones_lt) ones_lt

theorem many_append (l : List UInt8) : ∀ (c : Nat) (m : List UInt8), many c (l ++ m) = many (many c l) m := by
  induction l with
  | nil => intro c m; rfl
  | cons x l ih => intro c m; exact ih _ _
theorem many_snoc (c : Nat) (l : List UInt8) (x : UInt8) : many c (l ++ [x]) = next (many c l) x := by rw [many_append]; rfl

/-! ### one byte that is another one -/
theorem poly_bit : poly.testBit 31 = true := by decide
theorem half_bit {c : Nat} (h : c < 2 ^ 32) : (c / 2).testBit 31 = false := Nat.testBit_lt_two_pow (by omega)
theorem step_bit {c : Nat} (h : c < 2 ^ 32) : (step c).testBit 31 = decide (c % 2 = 1) := by
  unfold step
  split
  · next h1 => rw [Nat.testBit_xor, half_bit h, poly_bit]; simp [h1]
  · next h1 => rw [half_bit h]; simp [h1]
theorem xor_cancel {a b p : Nat} (h : a ^^^ p = b ^^^ p) : a = b := by
  have := congrArg (· ^^^ p) h
  simpa [Nat.xor_assoc] using this
theorem step_inj {a b : Nat} (ha : a < 2 ^ 32) (hb : b < 2 ^ 32) (h : step a = step b) : a = b := by
  have hbit := congrArg (·.testBit 31) h
  simp only [step_bit ha, step_bit hb, decide_eq_decide] at hbit
  by_cases h1 : a % 2 = 1
  · have h2 := hbit.1 h1
    rw [step_odd h1, step_odd h2] at h
    have := xor_cancel h
    omega
  · have h2 : b % 2 = 0 := by
      have : ¬ b % 2 = 1 := fun e => h1 (hbit.2 e)
      omega
    rw [step_even (by omega), step_even h2] at h
    omega
theorem steps_inj (k : Nat) : ∀ {a b : Nat}, a < 2 ^ 32 → b < 2 ^ 32 → steps k a = steps k b → a = b := by
  induction k with
  | zero => intro a b _ _ h; exact h
  | succ k ih => intro a b ha hb h; exact step_inj ha hb (ih (step_lt ha) (step_lt hb) h)
theorem next_inj_reg {a b : Nat} (x : UInt8) (ha : a < 2 ^ 32) (hb : b < 2 ^ 32) (h : next a x = next b x) : a = b :=
  xor_cancel (steps_inj 8 (Nat.xor_lt_two_pow ha (byte_lt x)) (Nat.xor_lt_two_pow hb (byte_lt x)) h)
theorem next_inj_byte {a : Nat} {x y : UInt8} (ha : a < 2 ^ 32) (h : next a x = next a y) : x = y := by
  have := steps_inj 8 (Nat.xor_lt_two_pow ha (byte_lt x)) (Nat.xor_lt_two_pow ha (byte_lt y)) h
  rw [Nat.xor_comm a, Nat.xor_comm a] at this
  exact UInt8.toNat_inj.1 (xor_cancel this)
theorem many_inj (l : List UInt8) : ∀ {a b : Nat}, a < 2 ^ 32 → b < 2 ^ 32 → many a l = many b l → a = b := by
  induction l with
  | nil => intro a b _ _ h; exact h
  | cons x l ih => intro a b ha hb h; exact next_inj_reg x ha hb (ih (next_lt x ha) (next_lt x hb) h)
/-- one byte is another one: another sum -/
theorem sum_one (l m : List UInt8) {x y : UInt8} (h : x ≠ y) : sum (l ++ x :: m) ≠ sum (l ++ y :: m) := by
  intro he
  have h1 := xor_cancel he
  rw [many_append, many_append] at h1
  have h0 := many_lt l ones_lt
  exact h (next_inj_byte h0 (many_inj m (next_lt x h0) (next_lt y h0) h1))

/-! ### four bytes tell the number -/
theorem low_toNat (n k : Nat) : (low n k).toNat = n / 2 ^ k % 256 := by simp [low]
theorem four_inj {a b : Nat} (ha : a < 2 ^ 32) (hb : b < 2 ^ 32) (h : four a = four b) : a = b := by
  unfold four at h
  injection h with h0 h
  injection h with h1 h
  injection h with h2 h
  injection h with h3 h
  have e0 := congrArg UInt8.toNat h0
  have e1 := congrArg UInt8.toNat h1
  have e2 := congrArg UInt8.toNat h2
  have e3 := congrArg UInt8.toNat h3
  simp only [low_toNat] at e0 e1 e2 e3
  omega
theorem four_take (n : Nat) {k : Nat} (h : k < 4) : (four n).take (k + 1) = (four n).take k ++ [low n (8 * k)] := by
  match k, h with
  | 0, _ => rfl
  | 1, _ => rfl
  | 2, _ => rfl
  | 3, _ => rfl
theorem four_length (n : Nat) : (four n).length = 4 := rfl
theorem sealed_length (l : List UInt8) : (sealed l).length = l.length + 4 := by simp [sealed, four]

/-- the number of four bytes, the lowest first -/
def word (l : List UInt8) : Nat := (l.getD 0 0).toNat + 256 * (l.getD 1 0).toNat + 65536 * (l.getD 2 0).toNat + 16777216 * (l.getD 3 0).toNat
/-- the number of the first k of them -/
def wordTo : Nat → List UInt8 → Nat
  | 0, _ => 0
  | k + 1, l => wordTo k l + 2 ^ (8 * k) * (l.getD k 0).toNat
theorem wordTo_four (l : List UInt8) : wordTo 4 l = word l := by simp [wordTo, word]
theorem wordTo_lt (l : List UInt8) (k : Nat) : wordTo k l < 2 ^ (8 * k) := by
  induction k with
  | zero => exact Nat.one_pos
  | succ k ih =>
    have h := (l.getD k 0).toNat_lt
    have e : 2 ^ (8 * (k + 1)) = 2 ^ (8 * k) * 256 := by rw [Nat.mul_succ, Nat.pow_add]
    have h2 : 2 ^ (8 * k) * ((l.getD k 0).toNat + 1) ≤ 2 ^ (8 * k) * 256 := Nat.mul_le_mul_left _ (by omega)
    rw [e]
    show wordTo k l + 2 ^ (8 * k) * (l.getD k 0).toNat < _
    rw [Nat.mul_add] at h2
    omega
/-- laid beside it by 'or' -/
theorem wordTo_or (l : List UInt8) (k : Nat) : wordTo k l ||| (l.getD k 0).toNat * 2 ^ (8 * k) = wordTo (k + 1) l := by
  show _ = wordTo k l + 2 ^ (8 * k) * (l.getD k 0).toNat
  rw [Nat.mul_comm (l.getD k 0).toNat, Nat.or_comm, ← Nat.two_pow_add_eq_or_of_lt (wordTo_lt l k), Nat.add_comm]
theorem word_lt (l : List UInt8) : word l < 2 ^ 32 := by
  have h0 := (l.getD 0 0).toNat_lt
  have h1 := (l.getD 1 0).toNat_lt
  have h2 := (l.getD 2 0).toNat_lt
  have h3 := (l.getD 3 0).toNat_lt
  unfold word
  omega
theorem word_four {n : Nat} (h : n < 2 ^ 32) : word (four n) = n := by
  simp only [word, four, List.getD_cons_zero, List.getD_cons_succ, low_toNat]
  omega
theorem four_word {l : List UInt8} (h : l.length = 4) : four (word l) = l := by
  match l, h with
  | [a, b, c, d], _ =>
    have h0 := a.toNat_lt
    have h1 := b.toNat_lt
    have h2 := c.toNat_lt
    have h3 := d.toNat_lt
    simp only [four, word, List.getD_cons_zero, List.getD_cons_succ]
    congr 1
    · apply UInt8.toNat_inj.1; rw [low_toNat]; omega
    congr 1
    · apply UInt8.toNat_inj.1; rw [low_toNat]; omega
    congr 1
    · apply UInt8.toNat_inj.1; rw [low_toNat]; omega
    congr 1
    apply UInt8.toNat_inj.1; rw [low_toNat]; omega
/-- the last four bytes are those of the sum of the others, just where the word that they say is that sum -/
theorem sealed_iff {s : List UInt8} (h : 4 ≤ s.length) : sealed (s.take (s.length - 4)) = s ↔ word (s.drop (s.length - 4)) = sum (s.take (s.length - 4)) := by
  have hd : (s.drop (s.length - 4)).length = 4 := by rw [List.length_drop]; omega
  constructor
  · intro e
    have : four (sum (s.take (s.length - 4))) = s.drop (s.length - 4) := by
      have h2 := List.take_append_drop (s.length - 4) s
      unfold sealed at e
      exact List.append_cancel_left (e.trans h2.symm)
    rw [← this, word_four (sum_lt _)]
  · intro e
    unfold sealed
    rw [← e, four_word hd, List.take_append_drop]
/-- a sealed row with one byte that is another one isn't sealed -/
theorem sealed_one {l : List UInt8} {i : Nat} {x : UInt8} (hi : i < l.length + 4) (hx : (sealed l)[i]? ≠ some x) :
    word (((sealed l).set i x).drop l.length) ≠ sum (((sealed l).set i x).take l.length) := by
  have hsl : (sealed l).length = l.length + 4 := sealed_length l
  by_cases h : i < l.length
  · have hdrop : ((sealed l).set i x).drop l.length = four (sum l) := by
      rw [List.drop_set_of_lt h]
      simp [sealed]
    have htake : ((sealed l).set i x).take l.length = l.set i x := by
      rw [List.take_set]
      simp [sealed]
    rw [hdrop, htake, word_four (sum_lt _)]
    have e1 : l = l.take i ++ l[i] :: l.drop (i + 1) := by simp
    have e2 : l.set i x = l.take i ++ x :: l.drop (i + 1) := by rw [List.set_eq_take_append_cons_drop, if_pos h]
    rw [e2]
    have hne : l[i] ≠ x := by
      intro e
      apply hx
      unfold sealed
      rw [List.getElem?_append_left h, List.getElem?_eq_getElem h, e]
    intro e
    refine sum_one (l.take i) (l.drop (i + 1)) hne ?_
    rw [← e1]
    exact e
  · have htake : ((sealed l).set i x).take l.length = l := by
      rw [List.take_set_of_le (by omega)]
      simp [sealed]
    have hdrop : ((sealed l).set i x).drop l.length = (four (sum l)).set (i - l.length) x := by
      rw [List.drop_set, if_neg h]
      simp [sealed]
    rw [htake, hdrop]
    intro e
    have hf : four (word ((four (sum l)).set (i - l.length) x)) = (four (sum l)).set (i - l.length) x := four_word (by simp [four])
    rw [e] at hf
    apply hx
    unfold sealed
    rw [List.getElem?_append_right (by omega)]
    have hl4 : i - l.length < (four (sum l)).length := by rw [four_length]; omega
    have h4 := congrArg (fun (t : List UInt8) => t[i - l.length]?) hf
    simpa [List.getElem?_set, hl4] using h4
theorem sum_set {l : List UInt8} {i : Nat} {x : UInt8} (hi : i < l.length) (hx : l[i] ≠ x) : sum (l.set i x) ≠ sum l := by
  have e1 : l = l.take i ++ l[i] :: l.drop (i + 1) := by simp
  have e2 : l.set i x = l.take i ++ x :: l.drop (i + 1) := by rw [List.set_eq_take_append_cons_drop, if_pos hi]
  intro e
  rw [e2] at e
  refine sum_one (l.take i) (l.drop (i + 1)) hx ?_
  rw [← e1]
  exact e.symm

/-! ### the document's own step: a bit of the byte at a time -/
theorem pair_odd {r q : Nat} (h : (r % 2 + q % 2) % 2 = 1) : step (r ^^^ q) = (r / 2 ^^^ poly) ^^^ q / 2 := by
  rw [step_odd (Nat.xor_mod_two_eq_one.2 (by omega)), Nat.xor_div_two, Nat.xor_assoc, Nat.xor_comm (q / 2), ← Nat.xor_assoc]
theorem pair_even {r q : Nat} (h : (r % 2 + q % 2) % 2 = 0) : step (r ^^^ q) = r / 2 ^^^ q / 2 := by
  have h1 : ¬ (r ^^^ q) % 2 = 1 := by rw [Nat.xor_mod_two_eq_one]; omega
  rw [step_even (by omega), Nat.xor_div_two]
theorem byte_end (b : UInt8) : b.toNat / 2 ^ 8 = 0 := by have := b.toNat_lt; omega
theorem byte_next (b : UInt8) (k : Nat) : b.toNat / 2 ^ k / 2 = b.toNat / 2 ^ (k + 1) := by rw [Nat.div_div_eq_div_mul, Nat.pow_succ]
end Go.Proofs.YtidjajdgphkbbaaRR.Cm
