/-
  Plain mathematics of the field Range: digits without noughts ahead, and which of two such texts tells less; what one spec says, and the specs of a field. Nothing here speaks of the program.
-/
import Derived.Test.YtokknicfnnkldaaDoorRRMath
import Derived.Test.YtokknicfnnkldaaDoorRRTextMath
namespace Go.Proofs.YtokknicfnnkldaaDoorRR.Sp

/-- digits without noughts ahead -/
def bare : List UInt8 → List UInt8
  | [] => []
  | c :: l => if c = 48 then bare l else c :: l
theorem bare_yes {c : UInt8} {l : List UInt8} (h : c = 48) : bare (c :: l) = bare l := by simp [bare, h]
theorem bare_no {c : UInt8} {l : List UInt8} (h : c ≠ 48) : bare (c :: l) = c :: l := by simp [bare, h]
theorem bare_len (l : List UInt8) : (bare l).length ≤ l.length := by
  induction l with
  | nil => exact Nat.le_refl _
  | cons c l ih =>
    by_cases h : c = 48
    · rw [bare_yes h, List.length_cons]; omega
    · rw [bare_no h]; exact Nat.le_refl _
theorem bare_all {l : List UInt8} (h : l.all Nm.digB = true) : (bare l).all Nm.digB = true := by
  induction l with
  | nil => rfl
  | cons c l ih =>
    by_cases hc : c = 48
    · rw [bare_yes hc]; exact ih (Nm.all_cons h).2
    · rw [bare_no hc]; exact h
theorem bare_val (l : List UInt8) : Nm.val 0 (bare l) = Nm.val 0 l := by
  induction l with
  | nil => rfl
  | cons c l ih =>
    by_cases hc : c = 48
    · rw [bare_yes hc, ih, Nm.val_cons, hc]; rfl
    · rw [bare_no hc]
theorem bare_head (l : List UInt8) : (bare l)[0]? ≠ some 48 := by
  induction l with
  | nil => simp [bare]
  | cons c l ih =>
    by_cases hc : c = 48
    · rw [bare_yes hc]; exact ih
    · rw [bare_no hc]; simpa using hc

/-- whether digits tell a number below that of others -/
def less (a b : List UInt8) : Bool := if (bare a).length = (bare b).length then Op.bytesLess (bare a) (bare b) else decide ((bare a).length < (bare b).length)

theorem shorter_val {a b : List UInt8} (ha : a.all Nm.digB = true) (hb : b.all Nm.digB = true) (h0 : b[0]? ≠ some 48) (hl : a.length < b.length) : Nm.val 0 a < Nm.val 0 b := by
  cases b with
  | nil => simp at hl
  | cons c b =>
    obtain ⟨hc, hb'⟩ := Nm.all_cons hb
    obtain ⟨c1, c2⟩ := Nm.digB_iff.1 hc
    have hc0 : (c.toNat : Int) ≠ 48 := by
      intro e
      have : c = 48 := UInt8.toNat_inj.1 (by have : (48 : UInt8).toNat = 48 := rfl; omega)
      subst this; exact h0 rfl
    have h1 := (Nm.val_bounds a 0 ha).2
    rw [Nm.val_cons]
    have h2 := (Nm.val_bounds b (10 * 0 + ((c.toNat : Int) - 48)) hb').1
    have hp := Nm.pow_pos b.length
    have hm : 1 * 10 ^ b.length ≤ (10 * 0 + ((c.toNat : Int) - 48)) * 10 ^ b.length := Int.mul_le_mul_of_nonneg_right (by omega) (by omega)
    have hq : (10 : Nat) ^ a.length ≤ 10 ^ b.length := Nat.pow_le_pow_right (by decide) (by simp at hl; omega)
    have hq' : ((10 ^ a.length : Nat) : Int) ≤ ((10 ^ b.length : Nat) : Int) := by omega
    rw [Int.natCast_pow, Int.natCast_pow] at hq'
    have e : ((10 : Nat) : Int) = 10 := rfl
    rw [e] at hq'
    omega

theorem less_val {a b : List UInt8} (ha : a.all Nm.digB = true) (hb : b.all Nm.digB = true) : less a b = true ↔ Nm.val 0 a < Nm.val 0 b := by
  have ha' := bare_all ha
  have hb' := bare_all hb
  rw [← bare_val a, ← bare_val b]
  unfold less
  by_cases h : (bare a).length = (bare b).length
  · rw [if_pos h]; exact Nm.less_val _ _ 0 ha' hb' h
  · rw [if_neg h, decide_eq_true_iff]
    rcases Nat.lt_or_ge (bare a).length (bare b).length with hl | hl
    · exact ⟨fun _ => shorter_val ha' hb' (bare_head b) hl, fun _ => hl⟩
    · have hg : (bare b).length < (bare a).length := by omega
      have := shorter_val hb' ha' (bare_head a) hg
      exact ⟨fun e => by omega, fun e => by omega⟩

/-- what a text says as a number: a number, or the error -/
theorem parse_err (l : List UInt8) : (Nm.parse l).2 = 0 ∨ (Nm.parse l).2 = 3 ∨ (Nm.parse l).2 = 9 := by
  by_cases h0 : l = []
  · subst h0; exact .inr (.inl rfl)
  · rw [Nm.parse_char h0]
    by_cases ha : l.all Nm.digB = true
    · rw [if_pos ha]
      split
      · exact .inl rfl
      · exact .inr (.inr rfl)
    · rw [if_neg ha]; exact .inr (.inl rfl)
theorem parse_dig {l : List UInt8} (h : (Nm.parse l).2 ≠ 3) : l ≠ [] ∧ l.all Nm.digB = true := by
  by_cases h0 : l = []
  · subst h0; exact absurd rfl h
  · refine ⟨h0, ?_⟩
    by_cases ha : l.all Nm.digB = true
    · exact ha
    · exfalso
      have : l.all Nm.digB = false := by simpa using ha
      rw [Nm.parse_bad this] at h
      exact h rfl
theorem parse_nine {l : List UInt8} (h : (Nm.parse l).2 = 9) : Nm.maxNum < Nm.val 0 l := by
  obtain ⟨h0, ha⟩ := parse_dig (l := l) (by rw [h]; decide)
  rw [Nm.parse_char h0, if_pos ha] at h
  by_cases hv : Nm.val 0 l ≤ Nm.maxNum
  · rw [if_pos hv] at h; exact absurd (show (0 : Int) = 9 from h) (by decide)
  · omega
theorem parse_zero {l : List UInt8} (h : (Nm.parse l).2 = 0) : Nm.val 0 l ≤ Nm.maxNum := by
  obtain ⟨h0, ha⟩ := parse_dig (l := l) (by rw [h]; decide)
  rw [Nm.parse_char h0, if_pos ha] at h
  by_cases hv : Nm.val 0 l ≤ Nm.maxNum
  · exact hv
  · rw [if_neg hv] at h; exact absurd (show (9 : Int) = 0 from h) (by decide)
/-- a first that is too great comes here only with a last that is, too -/
theorem nine_both {a b : List UInt8} (ha : (Nm.parse a).2 = 9) (hb : (Nm.parse b).2 ≠ 3) (hl : less b a = false) : (Nm.parse b).2 = 9 := by
  rcases parse_err b with h | h | h
  · exfalso
    have h1 := parse_nine ha
    have h2 := parse_zero h
    have h3 := (less_val (parse_dig hb).2 (parse_dig (l := a) (by rw [ha]; decide)).2).2 (by omega)
    rw [hl] at h3; cases h3
  · exact absurd h hb
  · exact h

/-- no spec: a spec is its kind, and its numbers -/
def zero : Int × Int × Int := (0, 0, 0)
/-- what two numbers say -/
def pair (a b : List UInt8) : (Int × Int × Int) × Int :=
  if (Nm.parse a).2 = 3 ∨ (Nm.parse b).2 = 3 ∨ less b a = true then (zero, 3)
  else if (Nm.parse b).2 = 9 then (zero, 9)
  else ((2, (Nm.parse a).1, (Nm.parse b).1), 0)
/-- what one number says, of that kind -/
def lone (k : Int) (a : List UInt8) : (Int × Int × Int) × Int := if (Nm.parse a).2 = 0 then ((k, (Nm.parse a).1, 0), 0) else (zero, (Nm.parse a).2)
/-- what a text says as a spec -/
def one (s : List UInt8) : (Int × Int × Int) × Int :=
  if (Tx.cut s 45).2.2 = false then (zero, 3)
  else if (Tx.cut s 45).1 = [] then lone 3 (Tx.cut s 45).2.1
  else if (Tx.cut s 45).2.1 = [] then lone 1 (Tx.cut s 45).1
  else pair (Tx.cut s 45).1 (Tx.cut s 45).2.1
theorem lone_err (k : Int) (a : List UInt8) : (lone k a).2 = 0 ∨ (lone k a).2 = 3 ∨ (lone k a).2 = 9 := by
  unfold lone
  split
  · exact .inl rfl
  · exact parse_err a
theorem pair_err (a b : List UInt8) : (pair a b).2 = 0 ∨ (pair a b).2 = 3 ∨ (pair a b).2 = 9 := by
  unfold pair
  split
  · exact .inr (.inl rfl)
  · split
    · exact .inr (.inr rfl)
    · exact .inl rfl
theorem one_err (s : List UInt8) : (one s).2 = 0 ∨ (one s).2 = 3 ∨ (one s).2 = 9 := by
  unfold one
  split
  · exact .inr (.inl rfl)
  · split
    · exact lone_err _ _
    · split
      · exact lone_err _ _
      · exact pair_err _ _

/-- the specs of elements: the first error 3, or 9, or too many, or all -/
def many (es : List (List UInt8)) : List (Int × Int × Int) × Int :=
  if es.any (fun p => (one p).2 == 3) then ([], 3)
  else if es.any (fun p => (one p).2 == 9) then ([], 9)
  else if 16 < es.length then ([], 10)
  else (es.map (fun p => (one p).1), 0)
def unit : List UInt8 := [98, 121, 116, 101, 115]
/-- what stands behind the unit -/
def elementsOf (s : List UInt8) : List (List UInt8) :=
  if (Tx.cut (Tx.trim s) 61).1.map Tx.low = unit then (if Tx.listed (Tx.cut (Tx.trim s) 61).2.1 = true then Tx.elems (Tx.cut (Tx.trim s) 61).2.1 else []) else []
def specs (s : List UInt8) : List (Int × Int × Int) × Int := if elementsOf s = [] then ([], 3) else many (elementsOf s)

/-! ### Round by round -/

def Clean (es : List (List UInt8)) (k : Nat) : Prop := (es.take k).any (fun p => (one p).2 == 3) = false
def Ov (es : List (List UInt8)) (k : Nat) : Bool := (es.take k).any (fun p => (one p).2 == 9)
/-- the specs of the first k, and noughts behind them -/
def Got (es : List (List UInt8)) (k : Nat) : List (Int × Int × Int) := (es.take k).map (fun p => (one p).1) ++ List.replicate (es.length - k) zero
section
variable {es : List (List UInt8)} {k : Nat}
theorem take_one (h : k < es.length) : es.take (k + 1) = es.take k ++ [es[k]] := List.take_succ_eq_append_getElem h
theorem clean_more (h : k < es.length) (he : (one es[k]).2 = 0 ∨ (one es[k]).2 = 9) (hc : Clean es k) : Clean es (k + 1) := by
  unfold Clean at hc ⊢
  rw [take_one h, List.any_append, hc]
  rcases he with he | he <;> simp [he]
theorem ov_same (h : k < es.length) (he : (one es[k]).2 = 0) : Ov es (k + 1) = Ov es k := by
  unfold Ov
  rw [take_one h, List.any_append]
  simp [he]
theorem ov_more (h : k < es.length) (he : (one es[k]).2 = 9) : Ov es (k + 1) = true := by
  unfold Ov
  rw [take_one h, List.any_append]
  simp [he]
theorem got_len (h : k ≤ es.length) : (Got es k).length = es.length := by
  unfold Got
  rw [List.length_append, List.length_map, List.length_take, List.length_replicate]
  omega
theorem got_set (h : k < es.length) : (Got es k).set k (one es[k]).1 = Got es (k + 1) := by
  unfold Got
  have hl : ((es.take k).map (fun p => (one p).1)).length = k := by rw [List.length_map, List.length_take]; omega
  obtain ⟨m, hm⟩ : ∃ m, es.length - k = m + 1 := ⟨es.length - k - 1, by omega⟩
  have hm2 : es.length - (k + 1) = m := by omega
  rw [List.set_append_right _ _ (by omega), hl, Nat.sub_self, hm, hm2, List.replicate_succ, List.set_cons_zero, take_one h, List.map_append, List.append_assoc]
  rfl
theorem got_all (es : List (List UInt8)) : Got es es.length = es.map (fun p => (one p).1) := by
  unfold Got
  rw [List.take_length, Nat.sub_self]
  simp
theorem got_none (es : List (List UInt8)) : Got es 0 = List.replicate es.length zero := by
  unfold Got
  simp
theorem many_form (h : k < es.length) (he : (one es[k]).2 = 3) : many es = ([], 3) := by
  unfold many
  rw [if_pos]
  rw [List.any_eq_true]
  exact ⟨es[k], List.getElem_mem h, by rw [he]; rfl⟩
theorem many_over (hc : Clean es es.length) (ho : Ov es es.length = true) : many es = ([], 9) := by
  unfold Clean at hc
  unfold Ov at ho
  rw [List.take_length] at hc ho
  unfold many
  rw [if_neg (by rw [hc]; decide), if_pos ho]
theorem many_long (hc : Clean es es.length) (ho : Ov es es.length = false) (h : 16 < es.length) : many es = ([], 10) := by
  unfold Clean at hc
  unfold Ov at ho
  rw [List.take_length] at hc ho
  unfold many
  rw [if_neg (by rw [hc]; decide), if_neg (by rw [ho]; decide), if_pos h]
theorem many_fine (hc : Clean es es.length) (ho : Ov es es.length = false) (h : es.length ≤ 16) : many es = (es.map (fun p => (one p).1), 0) := by
  unfold Clean at hc
  unfold Ov at ho
  rw [List.take_length] at hc ho
  unfold many
  rw [if_neg (by rw [hc]; decide), if_neg (by rw [ho]; decide), if_neg (by omega)]
end
end Go.Proofs.YtokknicfnnkldaaDoorRR.Sp
