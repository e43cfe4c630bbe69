/-
  Contract of crange.Of.
-/
import Derived.Test.YtlilkcbhlinolaaDoorCrangePrint
namespace Go.Proofs.YtlilkcbhlinolaaDoor
open Go.ChangeShapes Go.WideShapes Go.ChangeAt Go.RowKit

theorem of_walk (a b n : Int) (X : ByteArray) (w : World)
    (cp : ∀ W, Below w.heap.size w W → Calls Tryd.prog 43 #[.agg #[.bool true, .int .i64 a, .int .i64 b, .int .i64 n]] W fun e w' => e = .returned (.string X) ∧ Below W.heap.size W w') :
    Calls Tryd.prog 32 #[.agg #[.int .i64 a, .int .i64 b], .int .i64 n] w fun e w' => e = .returned (.string X) ∧ Below w.heap.size w w' := by
  have HB := below_new4 w (.cells #[.int .i64 a, .int .i64 b] 41)
  go_enter Tryd.func32, Tryd.ntmps32
  go_wp2_with (go_at_call 43; refine (cp _ HB).mono ?_; rintro e w1 ⟨rfl, hb⟩; replace HB := HB.trans (hb.mono HB.size))
  go_ret
  exact ⟨rfl, HB⟩
theorem of_any (a b n : Int) (w : World) (htab : Tab w) :
    Calls Tryd.prog 32 #[.agg #[.int .i64 a, .int .i64 b], .int .i64 n] w fun e w' => e = .returned (.string (Str (Cr.printL true a b n))) ∧ Below w.heap.size w w' :=
  of_walk a b n _ w (fun W hb => crPrint_any true a b n W (htab.on hb))
end Go.Proofs.YtlilkcbhlinolaaDoor
