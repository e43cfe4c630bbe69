/-
  Contract of nums.Print, over the shelf's strconv.Itoa.
-/
import Derived.Test.YtlilkcbhlinolaaDoorNums
import Derived.Test.YtlilkcbhlinolaaDoorShelf
import Derived.Below
import Derived.Lib.ItoaLen
import Derived.Lib.AppendIntMem
namespace Go.Proofs.YtlilkcbhlinolaaDoor
open Go.ChangeShapes Go.WideShapes Go.ChangeAt Go.RowKit

theorem print_any (k : Int) (w : World) (h0 : -9223372036854775808 ≤ k) (h1 : k ≤ 9223372036854775807) (htab : Lib.TabIs Tryd.prog w "internal/strconv.uint64pow10" .u64 Lib.pow10Tab) :
    Calls Tryd.prog 53 #[.int .i64 k] w fun e w' => e = .returned (.string ⟨(Lib.itoa k).toArray⟩) ∧ Below w.heap.size w w' := by
  have hI := Tryd.strconv_Itoa k h0 h1 w htab
  clear htab
  go_enter Tryd.func53, Tryd.ntmps53
  go_wp2_with (go_at_call 62; refine hI.mono ?_; rintro e w' ⟨rfl, n, os, rfl⟩)
  go_ret
  exact ⟨rfl, Lib.below_grow _ _ (Nat.le_refl _) _ _⟩
end Go.Proofs.YtlilkcbhlinolaaDoor
