/-
  Plain mathematics: a body of parts, read part by part.
-/
import Derived.Test.YtlilkcbhlinolaaDoorMultiMath
import Derived.Lib.IndexBytes
import Derived.Lib.Strings
namespace Go.Proofs.YtlilkcbhlinolaaDoor

def Mu.lead (bound : List UInt8) : List UInt8 := [45, 45] ++ bound ++ Mu.field
def Mu.two : List UInt8 := [13, 10, 13, 10]
/-- all ahead of two ends of lines, and all behind them -/
def Mu.line (r : List UInt8) : List UInt8 × List UInt8 :=
  if 0 ≤ Lib.index r Mu.two then (r.take (Lib.index r Mu.two).toNat, r.drop ((Lib.index r Mu.two).toNat + 4)) else (r, [])
def Mu.content (bound r : List UInt8) : Option (Cr.Con × List UInt8) :=
  if Lib.hasPrefix r (Mu.lead bound) then
    if (Cr.parse (Mu.line (r.drop (Mu.lead bound).length)).1).2 == 0 then some ((Cr.parse (Mu.line (r.drop (Mu.lead bound).length)).1).1, (Mu.line (r.drop (Mu.lead bound).length)).2) else none
  else none
def Mu.body (r : List UInt8) (n : Int) : Option (List UInt8 × List UInt8) :=
  if (r.length : Int) < n then none else if Lib.hasPrefix (r.drop n.toNat) Mu.eol then some (r.take n.toNat, r.drop (n.toNat + 2)) else none
/-- what comes of what is left, behind what has been read, and its total -/
inductive Mu.Runs (bound : List UInt8) : List UInt8 → List Mu.Part → Int → Option (List Mu.Part × Int) → Prop
  | done {r acc t} : r = Mu.close bound → Mu.Runs bound r acc t (some (acc, t))
  | noLine {r acc t} : r ≠ Mu.close bound → Mu.content bound r = none → Mu.Runs bound r acc t none
  | noBody {r acc t c q} : r ≠ Mu.close bound → Mu.content bound r = some (c, q) → Mu.body q (c.2.2.1 - c.2.1) = none → Mu.Runs bound r acc t none
  | step {r acc t c q own q2 x} : r ≠ Mu.close bound → Mu.content bound r = some (c, q) → Mu.body q (c.2.2.1 - c.2.1) = some (own, q2) →
      Mu.Runs bound q2 (acc ++ [(c.2.1, c.2.2.1, own)]) c.2.2.2 x → Mu.Runs bound r acc t x

theorem Mu.line_le (r : List UInt8) : (Mu.line r).1.length ≤ r.length ∧ (Mu.line r).2.length ≤ r.length := by
  unfold Mu.line
  split
  · simp only [List.length_take, List.length_drop]; omega
  · simp
theorem Cr.parse_ok {l : List UInt8} (h : (Cr.parse l).2 = 0) : Cr.ok (Cr.parse l).1 = true := by
  unfold Cr.parse at h ⊢
  split at h
  · rename_i hu
    rw [if_pos hu]
    unfold Cr.read at h ⊢
    split at h
    · cases h
    · rename_i h1
      rw [if_neg h1]
      split at h
      · cases h
      · rename_i h2
        rw [if_neg h2]
        split at h
        · rename_i h3
          rw [if_pos h3]; exact h3
        · cases h
  · cases h
/-- a span that was told, or none -/
def Mu.At (c : Cr.Con) : Prop := 0 ≤ c.2.1 ∧ c.2.1 ≤ c.2.2.1 ∧ c.2.2.1 ≤ 4611686018427387903 ∧ -1 ≤ c.2.2.2 ∧ c.2.2.2 ≤ 4611686018427387903
theorem Cr.ok_at {c : Cr.Con} (h : Cr.ok c = true) : Mu.At c := by
  obtain ⟨k, a, b, n⟩ := c
  unfold Cr.ok at h
  unfold Mu.At
  dsimp only at h ⊢
  cases k
  · have := Cr.right_not h; omega
  · have := Cr.right_known h; omega
theorem Mu.content_some {bound r q : List UInt8} {c : Cr.Con} (h : Mu.content bound r = some (c, q)) : Mu.At c ∧ q.length < r.length := by
  unfold Mu.content at h
  split at h
  · rename_i hp
    split at h
    · rename_i h0
      rw [Option.some.injEq, Prod.mk.injEq] at h
      obtain ⟨rfl, rfl⟩ := h
      refine ⟨Cr.ok_at (Cr.parse_ok (by simpa using h0)), ?_⟩
      have h1 := (Mu.line_le (r.drop (Mu.lead bound).length)).2
      have h2 : (Mu.lead bound).length ≤ r.length := by
        unfold Lib.hasPrefix at hp
        exact (List.isPrefixOf_iff_prefix.1 hp).length_le
      have h3 : 2 ≤ (Mu.lead bound).length := by unfold Mu.lead; simp only [List.length_append, List.length_cons, List.length_nil]; omega
      rw [List.length_drop] at h1
      omega
    · cases h
  · cases h
theorem Mu.body_some {r own q : List UInt8} {n : Int} (hn : 0 ≤ n) (h : Mu.body r n = some (own, q)) : (own.length : Int) = n ∧ own.length + q.length + 2 = r.length := by
  unfold Mu.body at h
  split at h
  · cases h
  · rename_i hlt
    split at h
    · rename_i hp
      rw [Option.some.injEq, Prod.mk.injEq] at h
      obtain ⟨rfl, rfl⟩ := h
      have h2 : 2 ≤ r.length - n.toNat := by
        unfold Lib.hasPrefix at hp
        have := (List.isPrefixOf_iff_prefix.1 hp).length_le
        rw [List.length_drop] at this
        exact this
      rw [List.length_take, List.length_drop]
      omega
    · cases h

theorem Mu.index_two {l r : List UInt8} (h : (13 : UInt8) ∉ l) : Lib.index (l ++ (Mu.two ++ r)) Mu.two = l.length := by
  apply Lib.index_first
  · simp
  · unfold Lib.occAt
    rw [List.drop_left]
    exact List.isPrefixOf_iff_prefix.2 ⟨_, rfl⟩
  · intro j hj
    unfold Lib.occAt
    rw [List.drop_append_of_le_length (by omega), List.drop_eq_getElem_cons hj]
    have hne : l[j] ≠ 13 := fun e => h (by rw [← e]; exact List.getElem_mem hj)
    rw [Bool.eq_false_iff]
    intro hp
    obtain ⟨x, hx⟩ := List.isPrefixOf_iff_prefix.1 hp
    unfold Mu.two at hx
    simp only [List.cons_append, List.cons.injEq] at hx
    exact hne hx.1.symm
theorem Mu.piece_parts (bound : List UInt8) (t : Int) (p : Mu.Part) (r : List UInt8) : Mu.piece bound t p ++ r = Mu.lead bound ++ (Cr.printL true p.1 p.2.1 t ++ (Mu.two ++ (p.2.2 ++ (Mu.eol ++ r)))) := by
  unfold Mu.piece Mu.head Mu.lead Mu.two
  simp only [List.append_assoc]
theorem Mu.content_piece {bound r : List UInt8} {t : Int} {p : Mu.Part} (ht : t ≤ 4611686018427387903) (h : Mu.okP t p = true) :
    Mu.content bound (Mu.piece bound t p ++ r) = some ((true, p.1, p.2.1, t), p.2.2 ++ (Mu.eol ++ r)) := by
  obtain ⟨hr, _⟩ := Mu.ok_right ht h
  have hl : Mu.line (Cr.printL true p.1 p.2.1 t ++ (Mu.two ++ (p.2.2 ++ (Mu.eol ++ r)))) = (Cr.printL true p.1 p.2.1 t, p.2.2 ++ (Mu.eol ++ r)) := by
    unfold Mu.line
    rw [Mu.index_two (print_no13 hr), if_pos (Int.natCast_nonneg _), Int.toNat_natCast, List.take_left, ← List.drop_drop, List.drop_left]
    rfl
  unfold Mu.content
  rw [Mu.piece_parts, List.drop_left, if_pos (by unfold Lib.hasPrefix; exact List.isPrefixOf_iff_prefix.2 ⟨_, rfl⟩), hl, Cr.back hr]
  rfl
theorem Mu.body_piece {own r : List UInt8} {n : Int} (h : n = (own.length : Int)) : Mu.body (own ++ (Mu.eol ++ r)) n = some (own, r) := by
  subst h
  unfold Mu.body
  rw [if_neg (by rw [List.length_append]; omega), Int.toNat_natCast, List.drop_left, if_pos (by unfold Lib.hasPrefix; exact List.isPrefixOf_iff_prefix.2 ⟨_, rfl⟩), List.take_left, ← List.drop_drop, List.drop_left]
  rfl
theorem Mu.piece_ne {bound r : List UInt8} {t : Int} {p : Mu.Part} : Mu.piece bound t p ++ r ≠ Mu.close bound := by
  intro e
  rw [Mu.piece_parts] at e
  unfold Mu.lead Mu.field Mu.close at e
  simp only [List.append_assoc] at e
  have e1 := List.append_cancel_left (List.append_cancel_left e)
  simp at e1
theorem Mu.runs_back {bound : List UInt8} {t : Int} (ht : t ≤ 4611686018427387903) : ∀ (L acc : List Mu.Part) (t0 : Int) (x : Option (List Mu.Part × Int)), L.all (Mu.okP t) = true →
    Mu.Runs bound (Mu.put L t bound) acc t0 x → x = some (acc ++ L, if L = [] then t0 else t)
  | [], acc, t0, x, _, h => by
    have e : Mu.put [] t bound = Mu.close bound := by unfold Mu.put; rw [List.flatMap_nil, List.nil_append]
    rw [e] at h
    cases h with
    | done _ => simp
    | noLine h _ => exact absurd rfl h
    | noBody h _ _ => exact absurd rfl h
    | step h _ _ _ => exact absurd rfl h
  | p :: L, acc, t0, x, hL, h => by
    rw [List.all_cons, Bool.and_eq_true] at hL
    have e : Mu.put (p :: L) t bound = Mu.piece bound t p ++ Mu.put L t bound := by unfold Mu.put; rw [List.flatMap_cons, List.append_assoc]
    have hc := Mu.content_piece (bound := bound) (r := Mu.put L t bound) ht hL.1
    have hb := Mu.body_piece (own := p.2.2) (r := Mu.put L t bound) (Mu.ok_right ht hL.1).2
    rw [e] at h
    cases h with
    | done h => exact absurd h Mu.piece_ne
    | noLine _ h1 => rw [hc] at h1; cases h1
    | noBody _ h1 h2 =>
      rw [hc] at h1
      injection h1 with h1
      injection h1 with h1 h3
      subst h1 h3
      rw [show ((true, p.1, p.2.1, t) : Cr.Con).2.2.1 - ((true, p.1, p.2.1, t) : Cr.Con).2.1 = p.2.1 - p.1 from rfl, hb] at h2
      cases h2
    | step _ h1 h2 h3 =>
      rw [hc] at h1
      injection h1 with h1
      injection h1 with h1 h4
      subst h1 h4
      rw [show ((true, p.1, p.2.1, t) : Cr.Con).2.2.1 - ((true, p.1, p.2.1, t) : Cr.Con).2.1 = p.2.1 - p.1 from rfl, hb] at h2
      injection h2 with h2
      injection h2 with h2 h5
      subst h2 h5
      have := Mu.runs_back ht L _ _ _ hL.2 h3
      rw [this, List.append_assoc]
      simp
/-- what Put lays of right parts -/
def Mu.Is (bound b : List UInt8) (L : List Mu.Part) (t : Int) : Prop := Mu.right L t = true ∧ Mu.put L t bound = b
theorem Mu.runs_is {bound b : List UInt8} {L : List Mu.Part} {t : Int} {x : Option (List Mu.Part × Int)} (h : Mu.Is bound b L t) (hr : Mu.Runs bound b [] 0 x) : x = some (L, t) := by
  obtain ⟨h1, rfl⟩ := h
  obtain ⟨h2, h3, _, h4⟩ := Mu.right_parts h1
  have := Mu.runs_back h4 L [] 0 x h2 hr
  rw [this, List.nil_append, if_neg h3]
theorem Mu.runs_none {bound b : List UInt8} (hr : Mu.Runs bound b [] 0 none) (L : List Mu.Part) (t : Int) : ¬ Mu.Is bound b L t := fun h => by
  cases Mu.runs_is h hr
end Go.Proofs.YtlilkcbhlinolaaDoor
