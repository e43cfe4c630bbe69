/-
  The statement on runs: the contracts of the landed program, and the walk.
-/
import Derived.Test.YtgfafcolfcdkdaaDoorBitAwake
import Derived.Test.YtgfafcolfcdkdaaDoorBitRunsW
namespace Go.Proofs.YtgfafcolfcdkdaaDoor
open Go.ChangeShapes Go.WideShapes Go.ChangeAt Go.RowKit
set_option maxRecDepth 100000

theorem bitmapRuns_walk (A : Option Addr) (n c : Nat) (l : List Int) (from_ to : Int) (w : World) (hA : Vs w w.heap.size A n (nums .i64 l)) (_ : n ≤ c) (_ : ∀ z ∈ l, (Lit.int .i64 z).wf = true) (_ : -9223372036854775808 ≤ from_) (_ : from_ ≤ 9223372036854775807) (_ : -9223372036854775808 ≤ to) (_ : to ≤ 9223372036854775807) (ht : Tab64 w) :
    Calls Tryd.prog 5 #[.slice A n c, .int .i64 from_, .int .i64 to] w fun e w' => e = .returned (.bool true) ∧ Below w.heap.size w w' :=
  runs_core (cs := mapC (setOf l)) from_ to _ _ rfl rfl (by split <;> omega) (by split <;> omega) _ _ rfl rfl hA (fun W h => awake_any W (ht.on h))
    (fun hn W h => of_any A n c w.heap.size l W (hA.below h) h.size (by omega)) (fun _ W h => runs_set l from_ to _ _ rfl rfl W (ht.on h))
end Go.Proofs.YtgfafcolfcdkdaaDoor
