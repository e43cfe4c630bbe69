/-
  The walk of the statement CrangeParses.
-/
import Derived.Test.YtejmiodblfpkjaaDoorRefContent
import Derived.Test.YtejmiodblfpkjaaDoorCrangeOf
namespace Go.Proofs.YtejmiodblfpkjaaDoor
open Go.ChangeShapes Go.WideShapes Go.ChangeAt Go.RowKit

set_option maxHeartbeats 2000000 in
theorem crangeParses_walk (s : ByteArray) (w : World) (hs : s.size ≤ maxLen) (ht : Lib.TabIs Tryd.prog w "internal/strconv.uint64pow10" .u64 Lib.pow10Tab) :
    Calls Tryd.prog 3 #[.string s] w fun e w' => e = .returned (.bool true) ∧ Below w.heap.size w w' := by
  have ca := crAwake_yes w (Lib.tabBelow_of_tabIs ht)
  clear ht
  by_cases hl : 300 < s.size
  · have hl' : (300 : Int) < (s.size : Int) := by omega
    clear hs
    go_enter Tryd.func3, Tryd.ntmps3
    go_wp2_with (go_at_call 6; refine ca.mono ?_; rintro e w' ⟨rfl, hb⟩; clear ca)
    go_ret
    exact ⟨rfl, hb⟩
  · have hl' : (s.size : Int) ≤ 300 := by omega
    have c1 := fun W => crParse_any s W hs
    have c2 := fun W => refContent_any s W (by omega)
    generalize Cr.parse s.data.toList = r at *
    obtain ⟨⟨k, a, b, n⟩, x⟩ := r
    unfold ConIs ConTo at c1 c2
    clear hl hs
    go_enter Tryd.func3, Tryd.ntmps3
    go_wp2_with (first
      | (go_at_call 6; refine ca.mono ?_; rintro e w' ⟨rfl, HB⟩; clear ca)
      | (go_at_call 7; refine (c1 _).mono ?_; rintro e w1 ⟨rfl, hb⟩; replace HB := HB.trans (hb.mono HB.size); clear hb)
      | (go_at_call 8; refine (c2 _).mono ?_; rintro e w2 ⟨rfl, hb⟩; obtain ⟨z0, z1, z2, z3, z4, _⟩ := (Four.new _ _ _ _ _ _).below hb; replace HB := (HB.alloc HB.size _).trans (hb.mono (by have := HB.size; simp; omega)); clear hb))
    go_ret
    exact ⟨rfl, HB.alloc HB.size _⟩
end Go.Proofs.YtejmiodblfpkjaaDoor
