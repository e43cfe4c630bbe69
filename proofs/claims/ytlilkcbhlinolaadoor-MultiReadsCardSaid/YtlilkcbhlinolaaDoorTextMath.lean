/-
  Plain mathematics of texts: blanks, tokens, small letters, where a text is cut, and the elements of a list. Nothing of the program is imported.
-/
namespace Go.Proofs.YtlilkcbhlinolaaDoor.Tx

def blank (c : UInt8) : Bool := c == 32 || c == 9
def within (a b : Int) (c : UInt8) : Bool := decide (a ≤ (c.toNat : Int)) && decide ((c.toNat : Int) ≤ b)
def cap (c : UInt8) : Bool := within 65 90 c
def marks : List UInt8 := [33, 35, 36, 37, 38, 39, 42, 43, 45, 46, 94, 95, 96, 124, 126]
def marks14 : List UInt8 := [33, 35, 36, 37, 38, 39, 42, 43, 45, 46, 94, 95, 124, 126]
def tok (c : UInt8) : Bool := cap c || within 97 122 c || within 48 57 c || marks.contains c
def low (c : UInt8) : UInt8 := if cap c then c + 32 else c
def token (l : List UInt8) : Bool := l.all tok && !l.isEmpty
def left : List UInt8 → List UInt8
  | [] => []
  | c :: l => if blank c = true then left l else c :: l
def right : List UInt8 → List UInt8
  | [] => []
  | c :: l => if right l = [] then (if blank c = true then [] else [c]) else c :: right l
def trim (l : List UInt8) : List UInt8 := left (right l)

section
variable {c : UInt8} {l m : List UInt8}
theorem left_yes (h : blank c = true) : left (c :: l) = left l := by simp [left, h]
theorem left_no (h : blank c = false) : left (c :: l) = c :: l := by simp [left, h]
theorem right_yes (h : blank c = true) : right (l ++ [c]) = right l := by
  induction l with
  | nil => simp [right, h]
  | cons x l ih => simp only [List.cons_append, right, ih]
theorem right_no (h : blank c = false) : right (l ++ [c]) = l ++ [c] := by
  induction l with
  | nil => simp [right, h]
  | cons x l ih => simp [right, ih]
theorem right_cons_blank (h : blank c = true) : right (c :: l) = if right l = [] then [] else c :: right l := by simp [right, h]
theorem trim_cons (h : blank c = true) : trim (c :: l) = trim l := by
  unfold trim
  rw [right_cons_blank h]
  by_cases hr : right l = []
  · rw [if_pos hr, hr]
  · rw [if_neg hr, left_yes h]
theorem trim_snoc (h : blank c = true) : trim (l ++ [c]) = trim l := by unfold trim; rw [right_yes h]
theorem left_nil_iff : left l = [] ↔ l.all blank = true := by
  induction l with
  | nil => simp [left]
  | cons x l ih =>
    by_cases h : blank x = true
    · rw [left_yes h, ih]; simp [h]
    · have h : blank x = false := by simpa using h
      rw [left_no h]; simp [h]
theorem right_nil_iff : right l = [] ↔ l.all blank = true := by
  induction l with
  | nil => simp [right]
  | cons x l ih =>
    unfold right
    by_cases hr : right l = []
    · have := ih.1 hr
      rw [if_pos hr]
      by_cases h : blank x = true
      · simp [h, this]
      · have h : blank x = false := by simpa using h
        simp [h]
    · rw [if_neg hr]
      have : ¬ l.all blank = true := fun e => hr (ih.2 e)
      simp only [List.all_cons, Bool.and_eq_true, reduceCtorEq, false_iff]
      exact fun e => this e.2
theorem right_all (h : (right l).all blank = true) : right l = [] := by
  induction l with
  | nil => rfl
  | cons x l ih =>
    unfold right at h ⊢
    by_cases hr : right l = []
    · rw [if_pos hr] at h ⊢
      by_cases hx : blank x = true
      · simp [hx]
      · have hx : blank x = false := by simpa using hx
        simp [hx] at h
    · rw [if_neg hr] at h
      simp only [List.all_cons, Bool.and_eq_true] at h
      exact absurd (ih h.2) hr
theorem trim_nil_iff : trim l = [] ↔ left l = [] := by
  unfold trim
  rw [left_nil_iff, left_nil_iff]
  exact ⟨fun h => right_nil_iff.1 (right_all h), fun h => by rw [right_nil_iff.2 h]; rfl⟩
theorem left_len (l : List UInt8) : (left l).length ≤ l.length := by
  induction l with
  | nil => exact Nat.le_refl _
  | cons x l ih =>
    by_cases h : blank x = true
    · rw [left_yes h, List.length_cons]; omega
    · rw [left_no (by simpa using h)]; exact Nat.le_refl _
theorem right_len (l : List UInt8) : (right l).length ≤ l.length := by
  induction l with
  | nil => exact Nat.le_refl _
  | cons x l ih =>
    unfold right
    by_cases hr : right l = []
    · rw [if_pos hr]
      split <;> simp
    · rw [if_neg hr, List.length_cons, List.length_cons]; omega
theorem left_same (h : (left l).length = l.length) : left l = l := by
  cases l with
  | nil => rfl
  | cons x l =>
    by_cases hx : blank x = true
    · rw [left_yes hx, List.length_cons] at h
      have := left_len l
      omega
    · exact left_no (by simpa using hx)
/-- the last byte of a text, or none -/
theorem snoc_cases (l : List UInt8) : l = [] ∨ ∃ m c, l = m ++ [c] := by
  rcases List.eq_nil_or_concat l with h | ⟨m, c, h⟩
  · exact .inl h
  · exact .inr ⟨m, c, by rw [h, List.concat_eq_append]⟩
theorem right_same (h : (right l).length = l.length) : right l = l := by
  rcases snoc_cases l with rfl | ⟨m, c, rfl⟩
  · rfl
  · by_cases hx : blank c = true
    · rw [right_yes hx, List.length_append] at h
      have := right_len m
      simp at h
      omega
    · exact right_no (by simpa using hx)
theorem left_fix_head (h : left (c :: l) = c :: l) : blank c = false := by
  by_cases hx : blank c = true
  · rw [left_yes hx] at h
    have := left_len l
    rw [h, List.length_cons] at this
    omega
  · simpa using hx
theorem right_fix_last (h : right (l ++ [c]) = l ++ [c]) : blank c = false := by
  by_cases hx : blank c = true
  · rw [right_yes hx] at h
    have := right_len l
    rw [h, List.length_append] at this
    simp at this
    omega
  · simpa using hx
theorem trim_fix (h : trim l = l) : left l = l ∧ right l = l := by
  unfold trim at h
  have h1 := left_len (right l)
  have h2 := right_len l
  have h3 : right l = l := right_same (by rw [h] at h1; omega)
  rw [h3] at h
  exact ⟨h, h3⟩
/-- what a text without blanks at its ends begins and ends with -/
theorem ends_of_trim (h : trim l = l) (h0 : l ≠ []) : (∃ x m, l = x :: m ∧ blank x = false) ∧ ∃ m x, l = m ++ [x] ∧ blank x = false := by
  obtain ⟨h1, h2⟩ := trim_fix h
  refine ⟨?_, ?_⟩
  · cases l with
    | nil => exact absurd rfl h0
    | cons x m => exact ⟨x, m, rfl, left_fix_head h1⟩
  · rcases snoc_cases l with rfl | ⟨m, x, rfl⟩
    · exact absurd rfl h0
    · exact ⟨m, x, rfl, right_fix_last h2⟩
theorem left_fix_iff (h : l ≠ []) : left l = l ↔ blank (l.headD 0) = false := by
  cases l with
  | nil => exact absurd rfl h
  | cons x m => exact ⟨left_fix_head, left_no⟩
theorem right_fix_iff (h : l ≠ []) : right l = l ↔ blank (l.getLastD 0) = false := by
  rcases snoc_cases l with rfl | ⟨m, x, rfl⟩
  · exact absurd rfl h
  · have : (m ++ [x]).getLastD 0 = x := by simp
    rw [this]
    exact ⟨right_fix_last, right_no⟩
end

/-- a text, cut at the first byte of a kind -/
def cut : List UInt8 → UInt8 → List UInt8 × List UInt8 × Bool
  | [], _ => ([], [], false)
  | x :: l, c => if x = c then ([], l, true) else (x :: (cut l c).1, (cut l c).2.1, (cut l c).2.2)
theorem cut_found {c : UInt8} {a b : List UInt8} (h : c ∉ a) : cut (a ++ c :: b) c = (a, b, true) := by
  induction a with
  | nil => simp [cut]
  | cons x a ih =>
    have hx : ¬ x = c := fun e => h (by rw [e]; exact List.mem_cons_self ..)
    have ha := ih (fun e => h (List.mem_cons_of_mem _ e))
    simp [cut, hx, ha]
theorem cut_none {c : UInt8} {l : List UInt8} (h : c ∉ l) : cut l c = (l, [], false) := by
  induction l with
  | nil => rfl
  | cons x a ih =>
    have hx : ¬ x = c := fun e => h (by rw [e]; exact List.mem_cons_self ..)
    have ha := ih (fun e => h (List.mem_cons_of_mem _ e))
    simp [cut, hx, ha]
theorem cut_cases (l : List UInt8) (c : UInt8) : (∃ a b, l = a ++ c :: b ∧ c ∉ a) ∨ c ∉ l := by
  by_cases h : c ∈ l
  · obtain ⟨a, b, e, hn⟩ := List.eq_append_cons_of_mem h
    exact .inl ⟨a, b, e, hn⟩
  · exact .inr h
/-- at the first place of the byte -/
theorem cut_at {c : UInt8} {l : List UInt8} {k : Nat} (hk : k < l.length) (h : l[k] = c) (hn : c ∉ l.take k) : cut l c = (l.take k, l.drop (k + 1), true) := by
  have e : l = l.take k ++ c :: l.drop (k + 1) := by rw [← h, ← List.drop_eq_getElem_cons hk, List.take_append_drop]
  conv => lhs; rw [e]
  exact cut_found hn

/-- the parts of a text, cut at its commas -/
def parts : List UInt8 → List (List UInt8)
  | [] => [[]]
  | c :: l => if c = 44 then [] :: parts l else match parts l with | [] => [[c]] | p :: ps => (c :: p) :: ps
theorem parts_ne (l : List UInt8) : parts l ≠ [] := by
  cases l with
  | nil => simp [parts]
  | cons x l =>
    unfold parts
    split
    · simp
    · split <;> simp
theorem parts_none {l : List UInt8} (h : (44 : UInt8) ∉ l) : parts l = [l] := by
  induction l with
  | nil => rfl
  | cons x l ih =>
    have hx : ¬ x = 44 := fun e => h (by rw [e]; exact List.mem_cons_self ..)
    have ha := ih (fun e => h (List.mem_cons_of_mem _ e))
    simp [parts, hx, ha]
theorem parts_c44 (l : List UInt8) : parts (44 :: l) = [] :: parts l := by simp [parts]
theorem parts_cons {c : UInt8} {l p : List UInt8} {ps : List (List UInt8)} (hc : c ≠ 44) (hp : parts l = p :: ps) : parts (c :: l) = (c :: p) :: ps := by
  conv => lhs; unfold parts
  rw [if_neg hc, hp]
theorem parts_comma (a b : List UInt8) : parts (a ++ 44 :: b) = parts a ++ parts b := by
  induction a with
  | nil => simp [parts]
  | cons x a ih =>
    rw [List.cons_append]
    by_cases hx : x = 44
    · rw [hx, parts_c44, parts_c44, ih]; rfl
    · cases hp : parts a with
      | nil => exact absurd hp (parts_ne a)
      | cons p ps =>
        rw [parts_cons hx hp, parts_cons hx (p := p) (ps := ps ++ parts b) (by rw [ih, hp]; rfl)]
        rfl
theorem parts_snoc {l : List UInt8} {c : UInt8} (hc : c ≠ 44) : ∀ {init : List (List UInt8)} {q : List UInt8}, parts l = init ++ [q] → parts (l ++ [c]) = init ++ [q ++ [c]] := by
  induction l with
  | nil =>
    intro init q h
    have h : [[]] = init ++ [q] := h
    cases init with
    | nil =>
      obtain rfl : q = [] := by simpa using h.symm
      simp [parts, hc]
    | cons i is => simp at h
  | cons x l ih =>
    intro init q h
    rw [List.cons_append]
    by_cases hx : x = 44
    · subst hx
      rw [parts_c44] at h ⊢
      cases init with
      | nil =>
        have : parts l = [] := by simpa using (List.cons.inj h).2
        exact absurd this (parts_ne l)
      | cons i is =>
        obtain ⟨h1, h2⟩ := List.cons.inj h
        rw [ih h2, ← h1]
        rfl
    · cases hp : parts l with
      | nil => exact absurd hp (parts_ne l)
      | cons p ps =>
        rw [parts_cons hx hp] at h
        cases init with
        | nil =>
          have h : (x :: p) :: ps = [] ++ [q] := h
          obtain ⟨h1, h2⟩ := List.cons.inj h
          have e : parts l = [] ++ [p] := by rw [hp, h2]; rfl
          rw [parts_cons hx (p := p ++ [c]) (ps := []) (by rw [ih e]; rfl), ← h1]
          rfl
        | cons i is =>
          obtain ⟨h1, h2⟩ := List.cons.inj h
          have e : parts l = (p :: is) ++ [q] := by rw [hp, h2]; rfl
          rw [parts_cons hx (p := p) (ps := is ++ [q ++ [c]]) (by rw [ih e]; rfl), ← h1]
          rfl
theorem parts_len_comma {l : List UInt8} (h : (44 : UInt8) ∈ l) : 2 ≤ (parts l).length := by
  obtain ⟨a, b, rfl⟩ := List.append_of_mem h
  rw [parts_comma, List.length_append]
  have h1 := List.length_pos_iff.2 (parts_ne a)
  have h2 := List.length_pos_iff.2 (parts_ne b)
  omega
theorem parts_last (l : List UInt8) : ∃ init q, parts l = init ++ [q] := by
  rcases List.eq_nil_or_concat (parts l) with hp | ⟨init, q, hp⟩
  · exact absurd hp (parts_ne l)
  · exact ⟨init, q, by rw [hp, List.concat_eq_append]⟩
/-- the elements of a list -/
def full (x : List UInt8) : Bool := !x.isEmpty
def pick (ps : List (List UInt8)) : List (List UInt8) := (ps.map trim).filter full
def elems (l : List UInt8) : List (List UInt8) := pick (parts l)
theorem pick_append (a b : List (List UInt8)) : pick (a ++ b) = pick a ++ pick b := by simp [pick]
theorem pick_one (p : List UInt8) : pick [p] = if trim p = [] then [] else [trim p] := by
  unfold pick full
  by_cases h : trim p = []
  · rw [if_pos h]; simp [h]
  · rw [if_neg h]; simp [h]
theorem pick_cons (p : List UInt8) (ps : List (List UInt8)) : pick (p :: ps) = pick [p] ++ pick ps := pick_append [p] ps
theorem elems_comma (a b : List UInt8) : elems (a ++ 44 :: b) = elems a ++ elems b := by unfold elems; rw [parts_comma, pick_append]
theorem elems_none {l : List UInt8} (h : (44 : UInt8) ∉ l) : elems l = if trim l = [] then [] else [trim l] := by unfold elems; rw [parts_none h, pick_one]
theorem blank_ne {c : UInt8} (h : blank c = true) : c ≠ 44 := by rintro rfl; exact absurd h (by decide)
theorem elems_cons {c : UInt8} {l : List UInt8} (h : blank c = true) : elems (c :: l) = elems l := by
  unfold elems
  cases hp : parts l with
  | nil => exact absurd hp (parts_ne l)
  | cons p ps =>
    rw [parts_cons (blank_ne h) hp, pick_cons (c :: p), pick_cons p, pick_one, pick_one, trim_cons h]
theorem elems_snoc {c : UInt8} {l : List UInt8} (h : blank c = true) : elems (l ++ [c]) = elems l := by
  unfold elems
  obtain ⟨init, q, hp⟩ := parts_last l
  rw [parts_snoc (blank_ne h) hp, hp, pick_append, pick_append, pick_one, pick_one, trim_snoc h]
theorem elems_cut_yes {l : List UInt8} {a b : List UInt8} (h : cut l 44 = (a, b, true)) : elems l = pick [a] ++ elems b := by
  rcases cut_cases l 44 with ⟨a', b', rfl, hn⟩ | hn
  · rw [cut_found hn] at h
    obtain ⟨rfl, rfl⟩ : a' = a ∧ b' = b := by simpa using h
    rw [elems_comma]
    congr 1
    unfold elems
    rw [parts_none hn]
  · rw [cut_none hn] at h
    simp at h
theorem elems_cut_no {l : List UInt8} {a b : List UInt8} (h : cut l 44 = (a, b, false)) : elems l = pick [a] := by
  rcases cut_cases l 44 with ⟨a', b', rfl, hn⟩ | hn
  · rw [cut_found hn] at h
    simp at h
  · rw [cut_none hn] at h
    obtain ⟨rfl, _⟩ : l = a ∧ [] = b := by simpa using h
    unfold elems
    rw [parts_none hn]
/-- the first part, and the last one -/
def first (l : List UInt8) : List UInt8 := (cut l 44).1
def last (l : List UInt8) : List UInt8 := (parts l).getLastD []
theorem last_none {l : List UInt8} (h : (44 : UInt8) ∉ l) : last l = l := by unfold last; rw [parts_none h]; rfl
theorem last_at {a b : List UInt8} (h : (44 : UInt8) ∉ b) : last (a ++ 44 :: b) = b := by unfold last; rw [parts_comma, parts_none h]; simp
theorem first_parts (l : List UInt8) : (parts l).headD [] = first l := by
  unfold first
  rcases cut_cases l 44 with ⟨a, b, rfl, hn⟩ | hn
  · rw [cut_found hn, parts_comma, parts_none hn]; rfl
  · rw [cut_none hn, parts_none hn]; rfl
/-- may a text be a list -/
def listed (l : List UInt8) : Bool :=
  if (cut l 44).2.2 = false ∧ left l = [] then decide (l = [])
  else decide (left (first l) = [] ∨ left (first l) = first l) && decide (left (last l) = [] ∨ right (last l) = last l)
/-- may a part stand at its place, one of n -/
def good (n i : Nat) (p : List UInt8) : Bool :=
  if trim p = [] then !(n == 1 && !p.isEmpty) else !((i == 0 && blank (p.headD 0)) || (i + 1 == n && blank (p.getLastD 0)))
theorem ne_of_trim {p : List UInt8} (h : ¬ trim p = []) : p ≠ [] := fun e => h (by rw [e]; rfl)
theorem good_head {n : Nat} {p : List UInt8} (hn : 2 ≤ n) : good n 0 p = decide (left p = [] ∨ left p = p) := by
  unfold good
  by_cases h : trim p = []
  · rw [if_pos h, decide_eq_true (.inl (trim_nil_iff.1 h))]
    simp; omega
  · rw [if_neg h]
    have h1 : ¬ left p = [] := fun e => h (trim_nil_iff.2 e)
    have h2 : (0 + 1 == n) = false := by simp; omega
    have h3 := left_fix_iff (ne_of_trim h)
    rw [h2]
    simp only [beq_self_eq_true, Bool.true_and, Bool.false_and, Bool.or_false, h1, false_or, h3]
    cases blank (p.headD 0) <;> rfl
theorem good_last {n i : Nat} {p : List UInt8} (hn : 2 ≤ n) (hi : i + 1 = n) : good n i p = decide (left p = [] ∨ right p = p) := by
  unfold good
  by_cases h : trim p = []
  · rw [if_pos h, decide_eq_true (.inl (trim_nil_iff.1 h))]
    simp; omega
  · rw [if_neg h]
    have h1 : ¬ left p = [] := fun e => h (trim_nil_iff.2 e)
    have h2 : (i == 0) = false := by simp; omega
    have h4 : (i + 1 == n) = true := by simp; omega
    have h3 := right_fix_iff (ne_of_trim h)
    rw [h2, h4]
    simp only [Bool.true_and, Bool.false_and, Bool.false_or, h1, false_or, h3]
    cases blank (p.getLastD 0) <;> rfl
theorem good_mid {n i : Nat} {p : List UInt8} (h0 : i ≠ 0) (hi : i + 1 ≠ n) (hl : i < n) : good n i p = true := by
  unfold good
  by_cases h : trim p = []
  · rw [if_pos h]; simp; omega
  · rw [if_neg h]
    have h2 : (i == 0) = false := by simpa using h0
    have h4 : (i + 1 == n) = false := by simpa using hi
    rw [h2, h4]; rfl
theorem good_one {l : List UInt8} : good 1 0 l = if left l = [] then decide (l = []) else (decide (left l = l) && decide (right l = l)) := by
  unfold good
  by_cases h : trim l = []
  · rw [if_pos h, if_pos (trim_nil_iff.1 h)]
    cases l <;> simp
  · have h1 : ¬ left l = [] := fun e => h (trim_nil_iff.2 e)
    rw [if_neg h, if_neg h1]
    simp only [left_fix_iff (ne_of_trim h), right_fix_iff (ne_of_trim h), beq_self_eq_true, Nat.zero_add, Bool.true_and]
    cases blank (l.headD 0) <;> cases blank (l.getLastD 0) <;> rfl
theorem listed_comma {l : List UInt8} (h : (44 : UInt8) ∈ l) : listed l = (decide (left (first l) = [] ∨ left (first l) = first l) && decide (left (last l) = [] ∨ right (last l) = last l)) := by
  unfold listed
  have hc : (cut l 44).2.2 = true := by
    rcases cut_cases l 44 with ⟨a, b, rfl, hn⟩ | hn
    · rw [cut_found hn]
    · exact absurd h hn
  rw [if_neg (by rw [hc]; simp)]
theorem listed_plain {l : List UInt8} (h : (44 : UInt8) ∉ l) : listed l = good 1 0 l := by
  have hf : first l = l := by unfold first; rw [cut_none h]
  unfold listed
  rw [good_one, cut_none h, last_none h, hf]
  by_cases h1 : left l = []
  · simp [h1]
  · simp [h1]
/-- a text is a list where each of its parts may stand at its place -/
theorem listed_iff (l : List UInt8) : listed l = true ↔ ∀ i (h : i < (parts l).length), good (parts l).length i (parts l)[i] = true := by
  by_cases hc : (44 : UInt8) ∈ l
  · have hn := parts_len_comma hc
    have e0 : ∀ h, (parts l)[0]'h = first l := by
      intro h
      rw [← first_parts l]
      generalize parts l = ps at *
      cases ps with
      | nil => simp at hn
      | cons p ps => rfl
    have e1 : ∀ h, (parts l)[(parts l).length - 1]'h = last l := by
      intro h
      unfold last
      rw [List.getLastD_eq_getLast?, List.getLast?_eq_getElem?, List.getElem?_eq_getElem h]
      rfl
    have g0 := good_head (p := first l) hn
    have g1 := good_last (p := last l) hn (i := (parts l).length - 1) (by omega)
    rw [listed_comma hc, ← g0, ← g1, Bool.and_eq_true]
    refine ⟨fun ⟨a, b⟩ i hi => ?_, fun h => ⟨?_, ?_⟩⟩
    · by_cases hi0 : i = 0
      · subst hi0; rw [e0]; exact a
      · by_cases hi1 : i + 1 = (parts l).length
        · obtain rfl : i = (parts l).length - 1 := by omega
          rw [e1]; exact b
        · exact good_mid hi0 hi1 hi
    · have := h 0 (by omega)
      rwa [e0] at this
    · have := h ((parts l).length - 1) (by omega)
      rwa [e1] at this
  · rw [listed_plain hc]
    have e : parts l = [l] := parts_none hc
    constructor
    · intro h i hi
      have hl : (parts l).length = 1 := by rw [e]; rfl
      obtain rfl : i = 0 := by omega
      simpa [e] using h
    · intro h
      have := h 0 (by rw [e]; simp)
      simpa [e] using this
/-- one element more, behind a comma and blanks on both sides -/
theorem elems_more {s x : List UInt8} (hx : elems x = [x]) : elems (s ++ 44 :: x) = elems s ++ [x] := by rw [elems_comma, hx]
theorem elems_self {x : List UInt8} (h0 : x ≠ []) (hn : (44 : UInt8) ∉ x) (ht : trim x = x) : elems x = [x] := by
  rw [elems_none hn, ht, if_neg h0]
/-- a text that ends and begins with a byte that is no blank, and begins with no comma, is a list -/
theorem listed_of_ends {l : List UInt8} (h1 : ∃ x m, l = x :: m ∧ blank x = false ∧ x ≠ 44) (h2 : ∃ m x, l = m ++ [x] ∧ blank x = false ∧ x ≠ 44) : listed l = true := by
  obtain ⟨x, m, e, hx, hx4⟩ := h1
  obtain ⟨m', y, e', hy, hy4⟩ := h2
  have hl : ¬ left l = [] := by rw [e, left_no hx]; simp
  unfold listed
  rw [if_neg (fun h => hl h.2)]
  have f1 : left (first l) = first l := by
    have : ∃ a, first l = x :: a := by
      unfold first
      rw [e]
      unfold cut
      rw [if_neg hx4]
      exact ⟨_, rfl⟩
    obtain ⟨a, ha⟩ := this
    rw [ha, left_no hx]
  have f2 : right (last l) = last l := by
    have : ∃ a, last l = a ++ [y] := by
      obtain ⟨init, q, hp⟩ := parts_last m'
      refine ⟨q, ?_⟩
      unfold last
      rw [e', parts_snoc hy4 hp]
      simp
    obtain ⟨a, ha⟩ := this
    rw [ha, right_no hy]
  simp [f1, f2]
end Go.Proofs.YtlilkcbhlinolaaDoor.Tx
