/-
  Plain mathematics of a text that is made of elements, with commas, blanks and empty ones between.
-/
import Derived.Test.YtgldgmmljigmdaaTextMath
namespace Go.Proofs.Ytgldgmmljigmdaa.Tx

/-- a text made of these elements, so far -/
def Made (done : List (List UInt8)) (s : List UInt8) : Prop :=
  (done = [] ∧ s = []) ∨ (elems s = done ∧ (∃ x m, s = x :: m ∧ blank x = false ∧ x ≠ 44) ∧ ∃ m x, s = m ++ [x] ∧ blank x = false ∧ x ≠ 44)
/-- may be an element -/
def Elem (x : List UInt8) : Prop := x ≠ [] ∧ (44 : UInt8) ∉ x ∧ trim x = x
theorem made_first {x : List UInt8} (h : Elem x) : Made [x] x := by
  obtain ⟨h0, hn, ht⟩ := h
  obtain ⟨⟨a, m, e1, hb1⟩, m', b, e2, hb2⟩ := ends_of_trim ht h0
  refine .inr ⟨elems_self h0 hn ht, ⟨a, m, e1, hb1, fun e => hn (by rw [e1, e]; exact List.mem_cons_self ..)⟩, m', b, e2, hb2, fun e => hn (by rw [e2, e]; simp)⟩
theorem made_with {done : List (List UInt8)} {s x sep : List UInt8} (hm : Made done s) (h0 : done ≠ []) (hx : Elem x) (he : elems (s ++ sep ++ x) = elems s ++ elems x) : Made (done ++ [x]) (s ++ sep ++ x) := by
  rcases hm with ⟨e, _⟩ | ⟨e1, ⟨a, m, e2, hb2, hc2⟩, _⟩
  · exact absurd e h0
  · obtain ⟨hx0, hn, ht⟩ := hx
    obtain ⟨_, m', b, e3, hb3⟩ := ends_of_trim ht hx0
    refine .inr ⟨by rw [he, e1, elems_self hx0 hn ht], ⟨a, m ++ sep ++ x, by rw [e2]; simp, hb2, hc2⟩, s ++ sep ++ m', b, by rw [e3]; simp, hb3, fun e => hn (by rw [e3, e]; simp)⟩
def sep0 : List UInt8 := [44]
def sep1 : List UInt8 := [32, 44, 32]
def sep2 : List UInt8 := [44, 44, 9]
def sep3 : List UInt8 := [32, 44, 9, 32, 44]
theorem elems_nil : elems [] = [] := by decide +kernel
theorem elems_sep0 (s x : List UInt8) : elems (s ++ sep0 ++ x) = elems s ++ elems x := by
  have : s ++ sep0 ++ x = s ++ 44 :: x := by simp [sep0]
  rw [this, elems_comma]
theorem elems_sep1 (s x : List UInt8) : elems (s ++ sep1 ++ x) = elems s ++ elems x := by
  have : s ++ sep1 ++ x = (s ++ [32]) ++ 44 :: (32 :: x) := by simp [sep1]
  rw [this, elems_comma, elems_snoc (by decide), elems_cons (by decide)]
theorem elems_sep2 (s x : List UInt8) : elems (s ++ sep2 ++ x) = elems s ++ elems x := by
  have : s ++ sep2 ++ x = s ++ 44 :: ([] ++ 44 :: (9 :: x)) := by simp [sep2]
  rw [this, elems_comma, elems_comma, elems_nil, elems_cons (by decide)]
  rfl
theorem elems_sep3 (s x : List UInt8) : elems (s ++ sep3 ++ x) = elems s ++ elems x := by
  have : s ++ sep3 ++ x = (s ++ [32]) ++ 44 :: ([9, 32] ++ 44 :: x) := by simp [sep3]
  have h2 : elems [9, 32] = [] := by decide +kernel
  rw [this, elems_comma, elems_comma, h2, elems_snoc (by decide)]
  rfl
theorem made_listed {done : List (List UInt8)} {s : List UInt8} (hm : Made done s) (h0 : done ≠ []) : listed s = true ∧ elems s = done := by
  rcases hm with ⟨e, _⟩ | ⟨e1, h1, h2⟩
  · exact absurd e h0
  · exact ⟨listed_of_ends h1 h2, e1⟩
end Go.Proofs.Ytgldgmmljigmdaa.Tx
