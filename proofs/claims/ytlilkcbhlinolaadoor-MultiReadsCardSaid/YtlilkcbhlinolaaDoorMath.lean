/-
  Plain mathematics on the numbers of texts: how a text of bytes is read as a number, digit by digit. Nothing here speaks of the program.
-/
import Derived.KernelRfl
import Derived.Lib.ItoaLen
import GoSem.Op.String
namespace Go.Proofs.YtlilkcbhlinolaaDoor.Nm

def maxNum : Int := 4611686018427387903

/-- is the byte a digit -/
def digB (c : UInt8) : Bool := decide (48 ≤ (c.toNat : Int)) && decide ((c.toNat : Int) ≤ 57)

/-- the reading, from a number and an error on -/
def go (n e : Int) : List UInt8 → Int × Int
  | [] => (n, e)
  | c :: l =>
    if digB c = true then
      if e = 0 then
        if (maxNum - ((c.toNat : Int) - 48)) / 10 < n then go 0 9 l
        else go (10 * n + ((c.toNat : Int) - 48)) 0 l
      else go n e l
    else (0, 3)

/-- the reading of a whole text -/
def parse (l : List UInt8) : Int × Int := if l = [] then (0, 3) else go 0 0 l

theorem go_bad {n e : Int} {c : UInt8} {l : List UInt8} (h : digB c = false) : go n e (c :: l) = (0, 3) := by
  simp [go, h]
theorem go_err {n e : Int} {c : UInt8} {l : List UInt8} (h : digB c = true) (he : e ≠ 0) : go n e (c :: l) = go n e l := by
  simp [go, h, he]
theorem go_over {n : Int} {c : UInt8} {l : List UInt8} (h : digB c = true) (ho : (maxNum - ((c.toNat : Int) - 48)) / 10 < n) : go n 0 (c :: l) = go 0 9 l := by
  simp [go, h, ho]
theorem go_dig {n : Int} {c : UInt8} {l : List UInt8} (h : digB c = true) (ho : ¬ (maxNum - ((c.toNat : Int) - 48)) / 10 < n) : go n 0 (c :: l) = go (10 * n + ((c.toNat : Int) - 48)) 0 l := by
  simp [go, h, ho]
theorem go_nil {n e : Int} : go n e [] = (n, e) := rfl

theorem digB_yes {c : UInt8} (h1 : 48 ≤ (c.toNat : Int)) (h2 : (c.toNat : Int) ≤ 57) : digB c = true := by simp [digB, h1, h2]
theorem digB_no {c : UInt8} (h : ¬ (48 ≤ (c.toNat : Int) ∧ (c.toNat : Int) ≤ 57)) : digB c = false := by
  unfold digB
  by_cases h1 : 48 ≤ (c.toNat : Int)
  · have h2 : ¬ (c.toNat : Int) ≤ 57 := fun h2 => h ⟨h1, h2⟩
    simp [h2]
  · simp [h1]

theorem drop_cons (s : ByteArray) (k : Nat) (h : k < s.size) : s.data.toList.drop k = s[k] :: s.data.toList.drop (k + 1) := by
  rw [List.drop_eq_getElem_cons (by simpa using h)]; rfl
theorem drop_all (s : ByteArray) (k : Nat) (h : s.size ≤ k) : s.data.toList.drop k = [] :=
  List.drop_eq_nil_of_le (by simpa using h)


/-! ### The number of digits -/

def val (n : Int) (l : List UInt8) : Int := l.foldl (fun a c => 10 * a + ((c.toNat : Int) - 48)) n
theorem val_nil (n : Int) : val n [] = n := rfl
theorem val_cons (n : Int) (c : UInt8) (l : List UInt8) : val n (c :: l) = val (10 * n + ((c.toNat : Int) - 48)) l := rfl
theorem val_append (n : Int) (a b : List UInt8) : val n (a ++ b) = val (val n a) b := List.foldl_append

theorem digB_iff {c : UInt8} : digB c = true ↔ 48 ≤ (c.toNat : Int) ∧ (c.toNat : Int) ≤ 57 := by
  constructor
  · intro h
    by_cases g : 48 ≤ (c.toNat : Int) ∧ (c.toNat : Int) ≤ 57
    · exact g
    · rw [digB_no g] at h; cases h
  · intro h; exact digB_yes h.1 h.2

theorem all_cons {c : UInt8} {l : List UInt8} (h : (c :: l).all digB = true) : digB c = true ∧ l.all digB = true := by
  simpa using h

theorem pow_pos (k : Nat) : (0 : Int) < 10 ^ k := Int.pow_pos (by decide)

theorem val_bounds : ∀ (l : List UInt8) (n : Int), l.all digB = true → n * 10 ^ l.length ≤ val n l ∧ val n l < (n + 1) * 10 ^ l.length
  | [], n, _ => by simp [val]; omega
  | c :: l, n, h => by
    obtain ⟨hc, hl⟩ := all_cons h
    obtain ⟨h1, h2⟩ := digB_iff.1 hc
    obtain ⟨b1, b2⟩ := val_bounds l (10 * n + ((c.toNat : Int) - 48)) hl
    rw [val_cons, List.length_cons, Int.pow_succ]
    have hp := pow_pos l.length
    generalize (10 : Int) ^ l.length = P at *
    generalize hd : (c.toNat : Int) - 48 = d at *
    have hd0 : 0 ≤ d := by omega
    have hd9 : d ≤ 9 := by omega
    have e1 : (10 * n + d) * P = 10 * (n * P) + d * P := by rw [Int.add_mul, Int.mul_assoc]
    have e2 : (10 * n + d + 1) * P = 10 * (n * P) + d * P + P := by rw [Int.add_mul, e1, Int.one_mul]
    have e3 : n * (P * 10) = 10 * (n * P) := by rw [← Int.mul_assoc, Int.mul_comm]
    have e4 : (n + 1) * (P * 10) = 10 * (n * P) + 10 * P := by rw [Int.add_mul, e3, Int.one_mul]; omega
    have d0 : 0 ≤ d * P := Int.mul_nonneg hd0 (by omega)
    have d9 : d * P ≤ 9 * P := Int.mul_le_mul_of_nonneg_right hd9 (by omega)
    rw [e1] at b1; rw [e2] at b2; rw [e3, e4]
    omega

theorem val_ge {l : List UInt8} {n : Int} (h : l.all digB = true) (h0 : 0 ≤ n) : n ≤ val n l := by
  have hb := (val_bounds l n h).1
  have hp := pow_pos l.length
  have h1 : n * 1 ≤ n * 10 ^ l.length := Int.mul_le_mul_of_nonneg_left (by omega) h0
  omega

theorem val_nonneg {l : List UInt8} {n : Int} (h : l.all digB = true) (h0 : 0 ≤ n) : 0 ≤ val n l := by
  have := val_ge h h0; omega

theorem go_nine : ∀ (l : List UInt8) (n : Int), go n 9 l = if l.all digB then (n, 9) else (0, 3)
  | [], n => rfl
  | c :: l, n => by
    by_cases hc : digB c = true
    · rw [go_err hc (by decide), go_nine l n]; simp [hc]
    · have hc : digB c = false := by simpa using hc
      rw [go_bad hc]; simp [hc]

theorem go_char : ∀ (l : List UInt8) (n : Int), 0 ≤ n → n ≤ maxNum → go n 0 l = if l.all digB then (if val n l ≤ maxNum then (val n l, 0) else (0, 9)) else (0, 3)
  | [], n, _, h => by simp [go, val, h]
  | c :: l, n, h0, h1 => by
    by_cases hc : digB c = true
    · obtain ⟨d1, d2⟩ := digB_iff.1 hc
      by_cases ho : (maxNum - ((c.toNat : Int) - 48)) / 10 < n
      · rw [go_over hc ho, go_nine]
        by_cases ha : l.all digB = true
        · have hb := val_ge (n := 10 * n + ((c.toNat : Int) - 48)) ha (by omega)
          rw [← val_cons] at hb
          have : ¬ val n (c :: l) ≤ maxNum := by unfold maxNum at *; omega
          simp [hc, ha, this]
        · have ha : l.all digB = false := by simpa using ha
          rw [List.all_cons, hc, ha]; rfl
      · rw [go_dig hc ho, go_char l _ (by omega) (by unfold maxNum at *; omega), val_cons, List.all_cons, hc, Bool.true_and]
    · have hc : digB c = false := by simpa using hc
      rw [go_bad hc]; simp [hc]

theorem parse_char {l : List UInt8} (h : l ≠ []) : parse l = if l.all digB then (if val 0 l ≤ maxNum then (val 0 l, 0) else (0, 9)) else (0, 3) := by
  unfold parse; rw [if_neg h]; exact go_char l 0 (by decide) (by decide)
theorem parse_bad {l : List UInt8} (h : l.all digB = false) : parse l = (0, 3) := by
  by_cases h0 : l = []
  · subst h0; cases h
  · rw [parse_char h0, h]; rfl
theorem parse_over {l : List UInt8} (h : l.all digB = true) (ho : maxNum < val 0 l) : parse l = (0, 9) := by
  by_cases h0 : l = []
  · subst h0; exact absurd ho (by decide)
  · rw [parse_char h0, if_pos h, if_neg (by omega)]
theorem parse_ok {l : List UInt8} (h0 : l ≠ []) (h : l.all digB = true) (ho : val 0 l ≤ maxNum) : parse l = (val 0 l, 0) := by
  rw [parse_char h0, if_pos h, if_pos ho]
theorem parse_inv {l : List UInt8} {n : Int} (h : parse l = (n, 0)) : l ≠ [] ∧ l.all digB = true ∧ val 0 l = n := by
  by_cases h0 : l = []
  · subst h0; rw [show parse [] = (0, 3) from rfl] at h; cases h
  · rw [parse_char h0] at h
    by_cases ha : l.all digB = true
    · rw [if_pos ha] at h
      by_cases ho : val 0 l ≤ maxNum
      · rw [if_pos ho] at h; exact ⟨h0, ha, congrArg Prod.fst h⟩
      · rw [if_neg ho] at h; cases h
    · rw [if_neg ha] at h; cases h

/-! ### Texts of one length, in order -/

theorem val_apart {a b : List UInt8} {n m : Int} (ha : a.all digB = true) (hb : b.all digB = true) (hl : a.length = b.length) (h : n < m) : val n a < val m b := by
  have h1 := (val_bounds a n ha).2
  have h2 := (val_bounds b m hb).1
  rw [hl] at h1
  have hp := pow_pos b.length
  have h3 : (n + 1) * 10 ^ b.length ≤ m * 10 ^ b.length := Int.mul_le_mul_of_nonneg_right (by omega) (by omega)
  omega

theorem val_inj : ∀ (a b : List UInt8) (n : Int), a.all digB = true → b.all digB = true → a.length = b.length → val n a = val n b → a = b
  | [], [], _, _, _, _, _ => rfl
  | [], _ :: _, _, _, _, hl, _ => by simp at hl
  | _ :: _, [], _, _, _, hl, _ => by simp at hl
  | c :: a, d :: b, n, ha, hb, hl, hv => by
    obtain ⟨_, ha'⟩ := all_cons ha
    obtain ⟨_, hb'⟩ := all_cons hb
    have hl' : a.length = b.length := by simpa using hl
    clear ha hb hl
    rw [val_cons, val_cons] at hv
    have hcd : (c.toNat : Int) = d.toNat := by
      rcases Int.lt_trichotomy (c.toNat : Int) d.toNat with h | h | h
      · have := val_apart ha' hb' hl' (n := 10 * n + ((c.toNat : Int) - 48)) (m := 10 * n + ((d.toNat : Int) - 48)) (by omega); omega
      · exact h
      · have := val_apart hb' ha' hl'.symm (n := 10 * n + ((d.toNat : Int) - 48)) (m := 10 * n + ((c.toNat : Int) - 48)) (by omega); omega
    obtain rfl : c = d := UInt8.toNat_inj.1 (by omega)
    rw [val_inj a b _ ha' hb' hl' hv]

theorem less_val : ∀ (a b : List UInt8) (n : Int), a.all digB = true → b.all digB = true → a.length = b.length → (Op.bytesLess a b = true ↔ val n a < val n b)
  | [], [], n, _, _, _ => by simp [Op.bytesLess, val]
  | [], _ :: _, _, _, _, hl => by simp at hl
  | _ :: _, [], _, _, _, hl => by simp at hl
  | c :: a, d :: b, n, ha, hb, hl => by
    obtain ⟨hc, ha⟩ := all_cons ha
    obtain ⟨hd, hb⟩ := all_cons hb
    have hl : a.length = b.length := by simpa using hl
    rw [val_cons, val_cons]
    have ih := less_val a b (10 * n + ((c.toNat : Int) - 48)) ha hb hl
    rcases Int.lt_trichotomy (c.toNat : Int) d.toNat with h | h | h
    · have h1 := val_apart ha hb hl (n := 10 * n + ((c.toNat : Int) - 48)) (m := 10 * n + ((d.toNat : Int) - 48)) (by omega)
      have h2 : c < d := by rw [UInt8.lt_iff_toNat_lt]; omega
      simp [Op.bytesLess, h1, h2]
    · obtain rfl : c = d := UInt8.toNat_inj.1 (by omega)
      simp [Op.bytesLess, ih]
    · have h1 := val_apart hb ha hl.symm (n := 10 * n + ((d.toNat : Int) - 48)) (m := 10 * n + ((c.toNat : Int) - 48)) (by omega)
      have h2 : ¬ c < d := by rw [UInt8.lt_iff_toNat_lt]; omega
      have h3 : ¬ c = d := by intro e; subst e; omega
      have h4 : ¬ val (10 * n + ((c.toNat : Int) - 48)) a < val (10 * n + ((d.toNat : Int) - 48)) b := by omega
      simp [Op.bytesLess, h2, h3, h4]

/-- the greatest number that may be, as a text -/
def maxText : List UInt8 := [52, 54, 49, 49, 54, 56, 54, 48, 49, 56, 52, 50, 55, 51, 56, 55, 57, 48, 51]
theorem maxText_all : maxText.all digB = true := by decide +kernel
theorem maxText_val : val 0 maxText = maxNum := by decide +kernel
theorem maxText_gtr {t : List UInt8} (ht : t.all digB = true) (hl : t.length = 19) : (!(Op.bytesLess t maxText || t == maxText)) = decide (maxNum < val 0 t) := by
  have hlen : t.length = maxText.length := hl
  have hb := less_val t maxText 0 ht maxText_all hlen
  rw [maxText_val] at hb
  rcases Int.lt_trichotomy (val 0 t) maxNum with h | h | h
  · rw [hb.2 h, decide_eq_false (by omega)]; rfl
  · have : t = maxText := val_inj t maxText 0 ht maxText_all hlen (h.trans maxText_val.symm)
    rw [decide_eq_false (by omega)]; subst this; simp
  · have h1 : Op.bytesLess t maxText = false := by
      cases hh : Op.bytesLess t maxText with
      | false => rfl
      | true => have := hb.1 hh; omega
    have h2 : (t == maxText) = false := by
      cases hh : t == maxText with
      | false => rfl
      | true =>
        have e : t = maxText := by simpa using hh
        subst e; rw [maxText_val] at h; omega
    rw [h1, h2, decide_eq_true h]; rfl

theorem big_val {l : List UInt8} (h : l.all digB = true) (h0 : l[0]? ≠ some 48) (hl : 19 < l.length) : maxNum < val 0 l := by
  cases l with
  | nil => simp at hl
  | cons c l =>
    obtain ⟨hc, ha⟩ := all_cons h
    obtain ⟨c1, c2⟩ := digB_iff.1 hc
    have hc0 : (c.toNat : Int) ≠ 48 := by
      intro e
      have : c = 48 := UInt8.toNat_inj.1 (by have : (48 : UInt8).toNat = 48 := rfl; omega)
      subst this; exact h0 rfl
    rw [val_cons]
    have hb := (val_bounds l (10 * 0 + ((c.toNat : Int) - 48)) ha).1
    have hp := pow_pos l.length
    have hm : 1 * 10 ^ l.length ≤ (10 * 0 + ((c.toNat : Int) - 48)) * 10 ^ l.length := Int.mul_le_mul_of_nonneg_right (by omega) (by omega)
    have hq : (10 : Nat) ^ 19 ≤ 10 ^ l.length := Nat.pow_le_pow_right (by decide) (by simp at hl; omega)
    have hq' : ((10 ^ 19 : Nat) : Int) ≤ ((10 ^ l.length : Nat) : Int) := by omega
    rw [Int.natCast_pow, Int.natCast_pow] at hq'
    have e : ((10 : Nat) : Int) = 10 := rfl
    rw [e] at hq'
    have e2 : (10 : Int) ^ 19 = 10000000000000000000 := by decide
    rw [e2] at hq'
    unfold maxNum
    omega

theorem small_val {l : List UInt8} (h : l.all digB = true) (hl : l.length < 19) : val 0 l ≤ maxNum := by
  have hb := (val_bounds l 0 h).2
  have hq : (10 : Nat) ^ l.length ≤ 10 ^ 18 := Nat.pow_le_pow_right (by decide) (by omega)
  have hq' : ((10 ^ l.length : Nat) : Int) ≤ ((10 ^ 18 : Nat) : Int) := by omega
  rw [Int.natCast_pow, Int.natCast_pow] at hq'
  have e : ((10 : Nat) : Int) = 10 := rfl
  rw [e] at hq'
  have e2 : (10 : Int) ^ 18 = 1000000000000000000 := by decide
  rw [e2] at hq'
  unfold maxNum
  omega

theorem all_drop {l : List UInt8} (h : l.all digB = true) (i : Nat) : (l.drop i).all digB = true := by
  rw [List.all_eq_true] at h ⊢
  exact fun x hx => h x (List.mem_of_mem_drop hx)
theorem all_take {l : List UInt8} (h : l.all digB = true) (i : Nat) : (l.take i).all digB = true := by
  rw [List.all_eq_true] at h ⊢
  exact fun x hx => h x (List.mem_of_mem_take hx)

theorem val_snoc {l : List UInt8} {k : Nat} (h : k < l.length) : val 0 (l.take (k + 1)) = 10 * val 0 (l.take k) + ((l[k].toNat : Int) - 48) := by
  rw [List.take_succ_eq_append_getElem h, val_append, val_cons, val_nil]
/-- what a part of a text says is no more than what all of it says -/
theorem val_take_le {l : List UInt8} (h : l.all digB = true) (k : Nat) : val 0 (l.take k) ≤ val 0 l := by
  have e : val 0 l = val (val 0 (l.take k)) (l.drop k) := by rw [← val_append, List.take_append_drop]
  rw [e]
  exact val_ge (all_drop h k) (val_nonneg (all_take h k) (by decide))

/-! ### Numerals -/

theorem dec_byte {u : Nat} (h : u < 10) : digB (UInt8.ofNat (48 + u)) = true ∧ ((UInt8.ofNat (48 + u)).toNat : Int) - 48 = u := by
  have e : (UInt8.ofNat (48 + u)).toNat = 48 + u := by simp [UInt8.toNat_ofNat']; omega
  refine ⟨digB_yes ?_ ?_, ?_⟩ <;> rw [e] <;> omega

theorem dec_val (u : Nat) : (Lib.decDigits u).all digB = true ∧ val 0 (Lib.decDigits u) = u := by
  induction u using Nat.strongRecOn with
  | _ u ih =>
    by_cases h : u < 10
    · rw [Lib.decDigits_one h]
      obtain ⟨h1, h2⟩ := dec_byte h
      exact ⟨by rw [List.all_cons, h1]; rfl, by rw [val_cons, val_nil, h2]; omega⟩
    · obtain ⟨i1, i2⟩ := ih (u / 10) (by omega)
      obtain ⟨h1, h2⟩ := dec_byte (u := u % 10) (by omega)
      rw [Lib.decDigits, dif_neg h]
      refine ⟨by rw [List.all_append, i1, Bool.true_and, List.all_cons, h1]; rfl, ?_⟩
      rw [val_append, i2, val_cons, val_nil, h2]; omega

theorem pow_nDigits_le (u : Nat) (h : 2 ≤ Lib.nDigits u) : 10 ^ (Lib.nDigits u - 1) ≤ u := by
  induction u using Nat.strongRecOn with
  | _ u ih =>
    by_cases hu : u < 10
    · rw [Lib.nDigits_small hu] at h; omega
    · rw [Lib.nDigits_big hu]
      by_cases h2 : 2 ≤ Lib.nDigits (u / 10)
      · have := ih (u / 10) (by omega) h2
        obtain ⟨k, hk⟩ : ∃ k, Lib.nDigits (u / 10) = k + 1 := ⟨Lib.nDigits (u / 10) - 1, by omega⟩
        rw [hk] at this ⊢
        have e : k + 1 + 1 - 1 = k + 1 := by omega
        rw [e, Nat.pow_succ]
        have e2 : k + 1 - 1 = k := by omega
        rw [e2] at this
        omega
      · have := Lib.nDigits_pos (u / 10)
        have e : Lib.nDigits (u / 10) + 1 - 1 = 1 := by omega
        rw [e]; omega

theorem dec_ne (u : Nat) : Lib.decDigits u ≠ [] := by
  intro h
  have := Lib.decDigits_length u
  have := Lib.nDigits_pos u
  rw [h] at *
  simp at *; omega

theorem parse_dec {u : Nat} (h : (u : Int) ≤ maxNum) : parse (Lib.decDigits u) = ((u : Int), 0) := by
  obtain ⟨h1, h2⟩ := dec_val u
  rw [parse_ok (dec_ne u) h1 (by omega), h2]

theorem noughts_val (k : Nat) (l : List UInt8) : val 0 (List.replicate k 48 ++ l) = val 0 l := by
  induction k with
  | zero => rfl
  | succ k ih => rw [List.replicate_succ, List.cons_append, val_cons]; exact ih

theorem parse_noughts {u : Nat} (k : Nat) (h : (u : Int) ≤ maxNum) : parse (List.replicate k 48 ++ Lib.decDigits u) = ((u : Int), 0) := by
  obtain ⟨h1, h2⟩ := dec_val u
  have hv := noughts_val k (Lib.decDigits u)
  rw [parse_ok (by
    intro e
    exact dec_ne u (List.append_eq_nil_iff.1 e).2) (by
    rw [List.all_append, h1, Bool.and_true]
    simp only [List.all_replicate]
    by_cases h0 : k = 0
    · simp [h0]
    · simp [h0]; decide) (by omega), hv, h2]

/-- what is read as u is u's own text, or a longer one with a nought ahead -/
theorem parse_only {l : List UInt8} {u : Nat} (h : parse l = ((u : Int), 0)) : l = Lib.decDigits u ∨ ((Lib.decDigits u).length < l.length ∧ l[0]? = some 48) := by
  obtain ⟨h0, ha, hv⟩ := parse_inv h
  obtain ⟨d1, d2⟩ := dec_val u
  rcases Nat.lt_trichotomy l.length (Lib.decDigits u).length with hl | hl | hl
  · exfalso
    have hb := (val_bounds l 0 ha).2
    rw [Lib.decDigits_length] at hl
    have hlp : 1 ≤ l.length := by
      cases l with
      | nil => exact absurd rfl h0
      | cons a b => simp
    have hp := pow_nDigits_le u (by omega)
    have hq : (10 : Nat) ^ l.length ≤ 10 ^ (Lib.nDigits u - 1) := Nat.pow_le_pow_right (by decide) (by omega)
    have hq' : ((10 ^ l.length : Nat) : Int) ≤ (u : Int) := by omega
    rw [Int.natCast_pow] at hq'
    have e : ((10 : Nat) : Int) = 10 := rfl
    rw [e] at hq'
    omega
  · left
    exact val_inj l _ 0 ha d1 hl (hv.trans d2.symm)
  · right
    refine ⟨hl, ?_⟩
    cases l with
    | nil => exact absurd rfl h0
    | cons c l =>
      obtain ⟨hc, ha'⟩ := all_cons ha
      obtain ⟨c1, c2⟩ := digB_iff.1 hc
      by_cases e : (c.toNat : Int) = 48
      · have : c = 48 := UInt8.toNat_inj.1 (by have : (48 : UInt8).toNat = 48 := rfl; omega)
        subst this; rfl
      · exfalso
        rw [val_cons] at hv
        have hb := (val_bounds l (10 * 0 + ((c.toNat : Int) - 48)) ha').1
        have hp := pow_pos l.length
        have hm : 1 * 10 ^ l.length ≤ (10 * 0 + ((c.toNat : Int) - 48)) * 10 ^ l.length := Int.mul_le_mul_of_nonneg_right (by omega) (by omega)
        rw [List.length_cons, Lib.decDigits_length] at hl
        have hq : (10 : Nat) ^ Lib.nDigits u ≤ 10 ^ l.length := Nat.pow_le_pow_right (by decide) (by omega)
        have hu := Lib.lt_pow_nDigits u
        have hq' : (u : Int) < ((10 ^ l.length : Nat) : Int) := by omega
        rw [Int.natCast_pow] at hq'
        have e : ((10 : Nat) : Int) = 10 := rfl
        rw [e] at hq'
        omega

end Go.Proofs.YtlilkcbhlinolaaDoor.Nm
