/-
  Contract of package text: Blank.
-/
import Derived.Test.YtokknicfnnkldaaDoorRRTextTrim
namespace Go.Proofs.YtokknicfnnkldaaDoorRR
open Go.ChangeShapes Go.WideShapes Go.ChangeAt Go.RowKit

theorem blank_any (s : ByteArray) (w : World) :
    Calls Tryd.prog 38 #[.string s] w fun e w' => e = .returned (.bool (decide (Tx.left s.data.toList = []))) ∧ Below w.heap.size w w' := by
  have co := left_any s
  by_cases h : Tx.left s.data.toList = []
  · rw [decide_eq_true h]
    have hl : (Str (Tx.left s.data.toList)).toList.isEmpty = true := isEmpty_of h
    clear h
    go_enter Tryd.func38, Tryd.ntmps38
    go_wp2_with (go_at_call 27; refine (co _).mono ?_; rintro e w1 ⟨rfl, hb1⟩)
    go_ret
    exact ⟨rfl, hb1⟩
  · rw [decide_eq_false h]
    have hl : (Str (Tx.left s.data.toList)).toList.isEmpty = false := by
      refine isEmpty_no ?_
      rw [str_size]
      exact List.length_pos_iff.2 h
    clear h
    go_enter Tryd.func38, Tryd.ntmps38
    go_wp2_with (go_at_call 27; refine (co _).mono ?_; rintro e w1 ⟨rfl, hb1⟩)
    go_ret
    exact ⟨rfl, hb1⟩
end Go.Proofs.YtokknicfnnkldaaDoorRR
