/-
  Contract of crange.Of; the example that the statements of layer 7 ask first.
-/
import Derived.Test.YtejmiodblfpkjaaDoorCrangePrint
namespace Go.Proofs.YtejmiodblfpkjaaDoor
open Go.ChangeShapes Go.WideShapes Go.ChangeAt Go.RowKit

theorem of_walk (a b n : Int) (X : ByteArray) (w : World)
    (cp : ∀ W, Below w.heap.size w W → Calls Tryd.prog 9 #[.agg #[.bool true, .int .i64 a, .int .i64 b, .int .i64 n]] W fun e w' => e = .returned (.string X) ∧ Below W.heap.size W w') :
    Calls Tryd.prog 13 #[.agg #[.int .i64 a, .int .i64 b], .int .i64 n] w fun e w' => e = .returned (.string X) ∧ Below w.heap.size w w' := by
  have HB := below_new4 w (.cells #[.int .i64 a, .int .i64 b] 24)
  go_enter Tryd.func13, Tryd.ntmps13
  go_wp2_with (go_at_call 9; refine (cp _ HB).mono ?_; rintro e w1 ⟨rfl, hb⟩; replace HB := HB.trans (hb.mono HB.size))
  go_ret
  exact ⟨rfl, HB⟩
theorem of_any (a b n : Int) (w : World) (htab : Tab w) :
    Calls Tryd.prog 13 #[.agg #[.int .i64 a, .int .i64 b], .int .i64 n] w fun e w' => e = .returned (.string (Str (Cr.printL true a b n))) ∧ Below w.heap.size w w' :=
  of_walk a b n _ w (fun W hb => crPrint_any true a b n W (htab.on hb))

theorem crAwake_text : ((Str (Cr.printL true 0 5 10)).toList == [98, 121, 116, 101, 115, 32, 48, 45, 52, 47, 49, 48]) = true := by
  rw [Lib.toList_data, str_list]
  decide +kernel
theorem crAwake_yes (w : World) (htab : Tab w) :
    Calls Tryd.prog 6 #[] w fun e w' => e = .returned (.bool true) ∧ Below w.heap.size w w' := by
  have co := of_any 0 5 10 w htab
  have e := crAwake_text
  generalize Str (Cr.printL true 0 5 10) = X at *
  clear htab
  go_enter Tryd.func6, Tryd.ntmps6
  go_wp2_with (go_at_call 13; refine co.mono ?_; rintro e w1 ⟨rfl, hb⟩; clear co)
  go_ret
  exact ⟨rfl, hb⟩
end Go.Proofs.YtejmiodblfpkjaaDoor
