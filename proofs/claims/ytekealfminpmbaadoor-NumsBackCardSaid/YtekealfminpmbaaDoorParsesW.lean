/-
  The walk of the statement NumsParses.
-/
import Derived.Test.YtekealfminpmbaaDoorRefParse
import Derived.Lib.AppendIntMem
namespace Go.Proofs.YtekealfminpmbaaDoor
open Go.ChangeShapes Go.WideShapes Go.ChangeAt Go.RowKit

theorem refParse_any (s : ByteArray) (w : World) (hs : s.size ≤ maxLen) :
    Calls Tryd.prog 7 #[.string s] w fun e w' => e = .returned (.tuple #[.int .i64 (Nm.parse s.data.toList).1, .int .i64 (Nm.parse s.data.toList).2]) ∧ w = w' := by
  by_cases h0 : s.size = 0
  · have e : s.data.toList = [] := by
      have : s.data.toList.length = 0 := by simpa using h0
      exact List.length_eq_zero_iff.1 this
    rw [e]
    exact refParse_empty s w h0
  · exact refParse_some s w hs (by omega)

theorem print_any (k : Int) (w : World) (h0 : -9223372036854775808 ≤ k) (h1 : k ≤ 9223372036854775807) (htab : Lib.TabIs Tryd.prog w "internal/strconv.uint64pow10" .u64 Lib.pow10Tab) :
    Calls Tryd.prog 8 #[.int .i64 k] w fun e w' => e = .returned (.string ⟨(Lib.itoa k).toArray⟩) ∧ Below w.heap.size w w' := by
  have hI := Tryd.strconv_Itoa k h0 h1 w htab
  clear htab
  go_enter Tryd.func8, Tryd.ntmps8
  go_wp2_with (go_at_call 12; refine hI.mono ?_; rintro e w' ⟨rfl, n, os, rfl⟩)
  go_ret
  exact ⟨rfl, Lib.below_grow _ _ (Nat.le_refl _) _ _⟩

theorem parses_walk (s : ByteArray) (k : Int) (w : World) (hs : s.size ≤ maxLen) (h0 : -9223372036854775808 ≤ k) (h1 : k ≤ 9223372036854775807) (htab : Lib.TabIs Tryd.prog w "internal/strconv.uint64pow10" .u64 Lib.pow10Tab) :
    Calls Tryd.prog 3 #[.string s, .int .i64 k] w fun e w' => e = .returned (.bool true) ∧ Below w.heap.size w w' := by
  have ca := awake_yes w
  have c1 := parse_any s w hs
  have c2 := refParse_any s w hs
  have c3 := print_any k w h0 h1 htab
  clear htab
  generalize Nm.parse s.data.toList = p at *
  obtain ⟨p1, p2⟩ := p
  unfold maxLen at hs
  by_cases hl : 300 < s.size
  · have hl' : (300 : Int) < (s.size : Int) := by omega
    go_enter Tryd.func3, Tryd.ntmps3
    go_wp2_with (go_at_call 5; refine ca.mono ?_; rintro e w' ⟨rfl, rfl⟩; clear ca)
    go_ret
    exact ⟨rfl, Below.refl _ _⟩
  · have hl' : (s.size : Int) ≤ 300 := by omega
    clear hl
    go_enter Tryd.func3, Tryd.ntmps3
    go_wp2_with (first | (go_at_call 8; refine c3.mono ?_; rintro e w1 ⟨rfl, HB⟩; clear c3) | (go_at_call 9; refine (refPrint_any k _ h0 h1).mono ?_; rintro e w2 ⟨rfl, HB2⟩) | (go_at_call 5; refine ca.mono ?_; rintro e w' ⟨rfl, rfl⟩; clear ca) | (go_at_call 6; refine c1.mono ?_; rintro e w' ⟨rfl, rfl⟩; clear c1) | (go_at_call 7; refine c2.mono ?_; rintro e w' ⟨rfl, rfl⟩; clear c2))
    go_ret
    exact ⟨rfl, HB.trans (HB2.mono HB.size)⟩
end Go.Proofs.YtekealfminpmbaaDoor
