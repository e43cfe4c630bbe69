/-
  Contract of the document's own Content, way by way (put together). Written by tools/gen_refcontent.py.
-/
import Derived.Test.YtejmiodblfpkjaaDoorRefContentB
import Derived.Test.YtejmiodblfpkjaaDoorRefContentC
import Derived.Test.YtejmiodblfpkjaaDoorRefContentD
import Derived.Test.YtejmiodblfpkjaaDoorCrangeParseAny
namespace Go.Proofs.YtejmiodblfpkjaaDoor
open Go.ChangeShapes Go.WideShapes Go.ChangeAt Go.RowKit

/-- what the document's own answers, in its order -/
def Cr.rv2 (is ok lo sa both u1 u2 z1 z2 st u3 z3 r : Bool) (c : Cr.Con) : Cr.Con × Int :=
  if !is || !ok || lo then (Cr.zero, 3) else if !sa && (!both || u1 || u2) then (Cr.zero, 3) else if !st && u3 then (Cr.zero, 3)
  else if (!sa && (z1 || z2)) || (!st && z3) then (Cr.zero, 9) else if r then (c, 0) else (Cr.zero, 3)

theorem refContent_walk (s U R A T L X Y : ByteArray) (is ok lo sa both u1 u2 z1 z2 st u3 z3 r : Bool) (n1 e1 n2 e2 n3 e3 : Int) (w : World)
    (c1 : ∀ W, Calls Tryd.prog 18 #[.string s, .int .u8 32] W fun e w' => e = .returned (.tuple #[.string U, .string R, .bool is]) ∧ Below W.heap.size W w')
    (c2 : ∀ W, Calls Tryd.prog 18 #[.string R, .int .u8 47] W fun e w' => e = .returned (.tuple #[.string A, .string T, .bool ok]) ∧ Below W.heap.size W w')
    (cl : ∀ W, Calls Tryd.prog 19 #[.string U] W fun e w' => e = .returned (.string L) ∧ Below W.heap.size W w')
    (hl : (L.toList != [98, 121, 116, 101, 115]) = lo)
    (ha : (A.toList != [42]) = !sa)
    (c3 : ∀ W, Calls Tryd.prog 18 #[.string A, .int .u8 45] W fun e w' => e = .returned (.tuple #[.string X, .string Y, .bool both]) ∧ Below W.heap.size W w')
    (p1 : ∀ W, Calls Tryd.prog 20 #[.string X] W fun x w' => x = .returned (.tuple #[.int .i64 n1, .int .i64 e1]) ∧ W = w')
    (p2 : ∀ W, Calls Tryd.prog 20 #[.string Y] W fun x w' => x = .returned (.tuple #[.int .i64 n2, .int .i64 e2]) ∧ W = w')
    (h1 : (e1 == 3) = u1)
    (h2 : (e2 == 3) = u2)
    (g1 : (e1 != 0) = z1)
    (g2 : (e2 != 0) = z2)
    (hn2 : 0 ≤ n2 ∧ n2 ≤ 4611686018427387903)
    (ht : (T.toList != [42]) = !st)
    (p3 : ∀ W, Calls Tryd.prog 20 #[.string T] W fun x w' => x = .returned (.tuple #[.int .i64 n3, .int .i64 e3]) ∧ W = w')
    (h3 : (e3 == 3) = u3)
    (g3 : (e3 != 0) = z3)
    (cr : ∀ W, Calls Tryd.prog 11 #[.agg #[.bool (!sa), .int .i64 (if sa then 0 else n1), .int .i64 (if sa then 0 else n2 + 1), .int .i64 (if st then -1 else n3)]] W fun e w' => e = .returned (.bool r) ∧ Below W.heap.size W w') :
    Calls Tryd.prog 8 #[.string s] w (ConIs (Cr.rv2 is ok lo sa both u1 u2 z1 z2 st u3 z3 r (!sa, if sa then 0 else n1, if sa then 0 else n2 + 1, if st then -1 else n3)) w) := by
  cases is with
  | true =>
    cases ok with
    | true =>
      cases lo with
      | true =>
        exact refContent_unit2 (c1 := c1) (c2 := c2) (cl := cl) (hl := hl) (w := w)
      | false =>
        cases sa with
        | true =>
          cases st with
          | true =>
            cases r with
            | true =>
              exact refContent_star_tr (c1 := c1) (c2 := c2) (cl := cl) (hl := hl) (ha := ha) (ht := ht) (cr := cr) (w := w)
            | false =>
              exact refContent_star_tw (c1 := c1) (c2 := c2) (cl := cl) (hl := hl) (ha := ha) (ht := ht) (cr := cr) (w := w)
          | false =>
            cases u3 with
            | true =>
              exact refContent_star_u (c1 := c1) (c2 := c2) (cl := cl) (hl := hl) (ha := ha) (ht := ht) (p3 := p3) (h3 := h3) (w := w)
            | false =>
              cases z3 with
              | true =>
                exact refContent_star_no (c1 := c1) (c2 := c2) (cl := cl) (hl := hl) (ha := ha) (ht := ht) (p3 := p3) (h3 := h3) (g3 := g3) (w := w)
              | false =>
                cases r with
                | true =>
                  exact refContent_star_nr (c1 := c1) (c2 := c2) (cl := cl) (hl := hl) (ha := ha) (ht := ht) (p3 := p3) (h3 := h3) (g3 := g3) (cr := cr) (w := w)
                | false =>
                  exact refContent_star_nw (c1 := c1) (c2 := c2) (cl := cl) (hl := hl) (ha := ha) (ht := ht) (p3 := p3) (h3 := h3) (g3 := g3) (cr := cr) (w := w)
        | false =>
          cases both with
          | true =>
            cases u1 with
            | true =>
              exact refContent_one (c1 := c1) (c2 := c2) (cl := cl) (hl := hl) (ha := ha) (c3 := c3) (p1 := p1) (p2 := p2) (h1 := h1) (w := w)
            | false =>
              cases u2 with
              | true =>
                exact refContent_two (c1 := c1) (c2 := c2) (cl := cl) (hl := hl) (ha := ha) (c3 := c3) (p1 := p1) (p2 := p2) (h1 := h1) (h2 := h2) (w := w)
              | false =>
                cases z1 with
                | true =>
                  cases st with
                  | true =>
                    exact refContent_over1_t (c1 := c1) (c2 := c2) (cl := cl) (hl := hl) (ha := ha) (c3 := c3) (p1 := p1) (p2 := p2) (h1 := h1) (h2 := h2) (g1 := g1) (hn2 := hn2) (ht := ht) (w := w)
                  | false =>
                    cases u3 with
                    | true =>
                      exact refContent_over1_u (c1 := c1) (c2 := c2) (cl := cl) (hl := hl) (ha := ha) (c3 := c3) (p1 := p1) (p2 := p2) (h1 := h1) (h2 := h2) (g1 := g1) (hn2 := hn2) (ht := ht) (p3 := p3) (h3 := h3) (w := w)
                    | false =>
                      exact refContent_over1_n (c1 := c1) (c2 := c2) (cl := cl) (hl := hl) (ha := ha) (c3 := c3) (p1 := p1) (p2 := p2) (h1 := h1) (h2 := h2) (g1 := g1) (hn2 := hn2) (ht := ht) (p3 := p3) (h3 := h3) (w := w)
                | false =>
                  cases z2 with
                  | true =>
                    cases st with
                    | true =>
                      exact refContent_over2_t (c1 := c1) (c2 := c2) (cl := cl) (hl := hl) (ha := ha) (c3 := c3) (p1 := p1) (p2 := p2) (h1 := h1) (h2 := h2) (g1 := g1) (g2 := g2) (hn2 := hn2) (ht := ht) (w := w)
                    | false =>
                      cases u3 with
                      | true =>
                        exact refContent_over2_u (c1 := c1) (c2 := c2) (cl := cl) (hl := hl) (ha := ha) (c3 := c3) (p1 := p1) (p2 := p2) (h1 := h1) (h2 := h2) (g1 := g1) (g2 := g2) (hn2 := hn2) (ht := ht) (p3 := p3) (h3 := h3) (w := w)
                      | false =>
                        exact refContent_over2_n (c1 := c1) (c2 := c2) (cl := cl) (hl := hl) (ha := ha) (c3 := c3) (p1 := p1) (p2 := p2) (h1 := h1) (h2 := h2) (g1 := g1) (g2 := g2) (hn2 := hn2) (ht := ht) (p3 := p3) (h3 := h3) (w := w)
                  | false =>
                    cases st with
                    | true =>
                      cases r with
                      | true =>
                        exact refContent_span_tr (c1 := c1) (c2 := c2) (cl := cl) (hl := hl) (ha := ha) (c3 := c3) (p1 := p1) (p2 := p2) (h1 := h1) (h2 := h2) (g1 := g1) (g2 := g2) (hn2 := hn2) (ht := ht) (cr := cr) (w := w)
                      | false =>
                        exact refContent_span_tw (c1 := c1) (c2 := c2) (cl := cl) (hl := hl) (ha := ha) (c3 := c3) (p1 := p1) (p2 := p2) (h1 := h1) (h2 := h2) (g1 := g1) (g2 := g2) (hn2 := hn2) (ht := ht) (cr := cr) (w := w)
                    | false =>
                      cases u3 with
                      | true =>
                        exact refContent_span_u (c1 := c1) (c2 := c2) (cl := cl) (hl := hl) (ha := ha) (c3 := c3) (p1 := p1) (p2 := p2) (h1 := h1) (h2 := h2) (g1 := g1) (g2 := g2) (hn2 := hn2) (ht := ht) (p3 := p3) (h3 := h3) (w := w)
                      | false =>
                        cases z3 with
                        | true =>
                          exact refContent_span_no (c1 := c1) (c2 := c2) (cl := cl) (hl := hl) (ha := ha) (c3 := c3) (p1 := p1) (p2 := p2) (h1 := h1) (h2 := h2) (g1 := g1) (g2 := g2) (hn2 := hn2) (ht := ht) (p3 := p3) (h3 := h3) (g3 := g3) (w := w)
                        | false =>
                          cases r with
                          | true =>
                            exact refContent_span_nr (c1 := c1) (c2 := c2) (cl := cl) (hl := hl) (ha := ha) (c3 := c3) (p1 := p1) (p2 := p2) (h1 := h1) (h2 := h2) (g1 := g1) (g2 := g2) (hn2 := hn2) (ht := ht) (p3 := p3) (h3 := h3) (g3 := g3) (cr := cr) (w := w)
                          | false =>
                            exact refContent_span_nw (c1 := c1) (c2 := c2) (cl := cl) (hl := hl) (ha := ha) (c3 := c3) (p1 := p1) (p2 := p2) (h1 := h1) (h2 := h2) (g1 := g1) (g2 := g2) (hn2 := hn2) (ht := ht) (p3 := p3) (h3 := h3) (g3 := g3) (cr := cr) (w := w)
          | false =>
            exact refContent_both (c1 := c1) (c2 := c2) (cl := cl) (hl := hl) (ha := ha) (c3 := c3) (p1 := p1) (p2 := p2) (w := w)
    | false =>
      exact refContent_unit1 (c1 := c1) (c2 := c2) (w := w)
  | false =>
    exact refContent_unit0 (c1 := c1) (c2 := c2) (w := w)

theorem Cr.rv2_eq (is ok lo sa both st r : Bool) (x1 x2 x3 : Int) (c : Cr.Con) (h1 : x1 = 0 ∨ x1 = 3 ∨ x1 = 9) (h2 : x2 = 0 ∨ x2 = 3 ∨ x2 = 9) (h3 : x3 = 0 ∨ x3 = 3 ∨ x3 = 9)
    (hi : is = false → x2 = 3 ∧ sa = false) (ho : ok = false → x3 = 3 ∧ st = false) (hb : both = false → x2 = 3) :
    Cr.rv2 is ok lo sa both (x1 == 3) (x2 == 3) (x1 != 0) (x2 != 0) st (x3 == 3) (x3 != 0) r c =
      if lo then (Cr.zero, 3) else if (!sa && (x1 == 3 || x2 == 3)) || (!st && x3 == 3) then (Cr.zero, 3) else if (!sa && (x1 == 9 || x2 == 9)) || (!st && x3 == 9) then (Cr.zero, 9) else if r then (c, 0) else (Cr.zero, 3) := by
  unfold Cr.rv2
  cases lo
  case true => simp
  case false =>
    cases is
    case false => obtain ⟨rfl, rfl⟩ := hi rfl; simp
    case true =>
      cases ok
      case false => obtain ⟨rfl, rfl⟩ := ho rfl; simp
      case true =>
        cases both
        case false => obtain rfl := hb rfl; cases sa <;> rcases h1 with rfl | rfl | rfl <;> rcases h3 with rfl | rfl | rfl <;> cases st <;> simp
        case true => cases sa <;> rcases h1 with rfl | rfl | rfl <;> rcases h2 with rfl | rfl | rfl <;> rcases h3 with rfl | rfl | rfl <;> cases st <;> simp
theorem Nm.parse_err (l : List UInt8) : (Nm.parse l).2 = 0 ∨ (Nm.parse l).2 = 3 ∨ (Nm.parse l).2 = 9 := by
  by_cases h : l = []
  · subst h; simp [Nm.parse]
  · rw [Nm.parse_char h]
    by_cases ha : l.all Nm.digB = true
    · rw [if_pos ha]
      by_cases hv : Nm.val 0 l ≤ Nm.maxNum
      · rw [if_pos hv]; simp
      · rw [if_neg hv]; simp
    · rw [if_neg ha]; simp
theorem Tx.cut_no {l : List UInt8} {c : UInt8} (h : (Tx.cut l c).2.2 = false) : (Tx.cut l c).2.1 = [] := by
  rcases Tx.cut_cases l c with ⟨a, b, e, hn⟩ | hn
  · rw [e, Tx.cut_found hn] at h; simp at h
  · rw [Tx.cut_none hn]
def Cr.unit (l : List UInt8) : List UInt8 := (Tx.cut l 32).1
def Cr.at (l : List UInt8) : List UInt8 := (Tx.cut (Tx.cut l 32).2.1 47).1
def Cr.tot (l : List UInt8) : List UInt8 := (Tx.cut (Tx.cut l 32).2.1 47).2.1
theorem Cr.parse_eq (l : List UInt8) :
    Cr.rv2 (Tx.cut l 32).2.2 (Tx.cut (Tx.cut l 32).2.1 47).2.2 ((Cr.unit l).map Tx.low != Cr.bytes) (Cr.at l == [42]) (Tx.cut (Cr.at l) 45).2.2 ((Nm.parse (Tx.cut (Cr.at l) 45).1).2 == 3) ((Nm.parse (Tx.cut (Cr.at l) 45).2.1).2 == 3) ((Nm.parse (Tx.cut (Cr.at l) 45).1).2 != 0) ((Nm.parse (Tx.cut (Cr.at l) 45).2.1).2 != 0)
      (Cr.tot l == [42]) ((Nm.parse (Cr.tot l)).2 == 3) ((Nm.parse (Cr.tot l)).2 != 0) (Cr.ok (Cr.con (Cr.at l) (Cr.tot l))) (Cr.con (Cr.at l) (Cr.tot l)) = Cr.parse l := by
  rw [Cr.rv2_eq _ _ _ _ _ _ _ _ _ _ _ (Nm.parse_err _) (Nm.parse_err _) (Nm.parse_err _)]
  · unfold Cr.parse Cr.read
    by_cases hu : (Tx.cut l 32).1.map Tx.low = Cr.bytes
    · rw [if_pos hu, show ((Cr.unit l).map Tx.low != Cr.bytes) = false by unfold Cr.unit; rw [hu]; exact bne_self_eq_false _]
      rfl
    · rw [if_neg hu, show ((Cr.unit l).map Tx.low != Cr.bytes) = true by unfold Cr.unit; exact bne_iff_ne.2 hu]
      rfl
  · intro h
    have e := Tx.cut_no h
    unfold Cr.at
    rw [e]
    exact ⟨rfl, rfl⟩
  · intro h
    have e := Tx.cut_no h
    unfold Cr.tot
    rw [e]
    exact ⟨rfl, rfl⟩
  · intro h
    rw [Tx.cut_no h]
    rfl

theorem refContent_any (s : ByteArray) (w : World) (hs : s.size ≤ 1000000) :
    Calls Tryd.prog 8 #[.string s] w (ConIs (Cr.parse s.data.toList) w) := by
  have h1 := cut_size s.data.toList 32
  have h2 := cut_size (Tx.cut s.data.toList 32).2.1 47
  have h3 := cut_size (Cr.at s.data.toList) 45
  unfold Cr.at at h3
  rw [size_list] at h1
  have hm : 1000000 ≤ maxLen := by unfold maxLen; omega
  have c1 := fun W => refCut_any s 32 W (by omega)
  have c2 := fun W => refCut_any (Str (Tx.cut s.data.toList 32).2.1) 47 W (by rw [str_size]; omega)
  have c3 := fun W => refCut_any (Str (Cr.at s.data.toList)) 45 W (by rw [str_size]; unfold Cr.at; omega)
  have cl := fun W => refLower_any (Str (Cr.unit s.data.toList)) W (by rw [str_size]; unfold Cr.unit; omega)
  have p1 := fun W => refParse_any (Str (Tx.cut (Cr.at s.data.toList) 45).1) W (by rw [str_size]; unfold Cr.at; omega)
  have p2 := fun W => refParse_any (Str (Tx.cut (Cr.at s.data.toList) 45).2.1) W (by rw [str_size]; unfold Cr.at; omega)
  have p3 := fun W => refParse_any (Str (Cr.tot s.data.toList)) W (by rw [str_size]; unfold Cr.tot; omega)
  have cr := fun W => refRightContent_any (Cr.con (Cr.at s.data.toList) (Cr.tot s.data.toList)).1 (Cr.con (Cr.at s.data.toList) (Cr.tot s.data.toList)).2.1 (Cr.con (Cr.at s.data.toList) (Cr.tot s.data.toList)).2.2.1 (Cr.con (Cr.at s.data.toList) (Cr.tot s.data.toList)).2.2.2 W
  have hn2 := Nm.parse_range (Tx.cut (Cr.at s.data.toList) 45).2.1
  rw [← Cr.parse_eq]
  generalize hat : Cr.at s.data.toList = at_ at *
  generalize htt : Cr.tot s.data.toList = tot at *
  generalize hun : Cr.unit s.data.toList = un at *
  simp only [str_list] at c3 cl p1 p2 p3
  unfold CutTo at c1 c2 c3
  rw [str_list] at c2
  change ∀ W, Calls _ _ _ W fun e w' => e = .returned (.tuple #[.string (Str (Cr.unit s.data.toList)), _, _]) ∧ _ at c1
  change ∀ W, Calls _ _ _ W fun e w' => e = .returned (.tuple #[.string (Str (Cr.at s.data.toList)), .string (Str (Cr.tot s.data.toList)), _]) ∧ _ at c2
  rw [hun] at c1
  rw [hat, htt] at c2
  have ne_str (l : List UInt8) (m : List UInt8) : ((Str l).toList != m) = (l != m) := by rw [Lib.toList_data, str_list]
  exact refContent_walk s _ _ _ _ _ _ _ _ _ _ _ _ _ _ _ _ _ _ _ _ _ _ _ _ _ _ w c1 c2 cl (ne_str _ _) (ne_str _ _) c3 p1 p2 rfl rfl rfl rfl hn2 (ne_str _ _) p3 rfl rfl cr
end Go.Proofs.YtejmiodblfpkjaaDoor
