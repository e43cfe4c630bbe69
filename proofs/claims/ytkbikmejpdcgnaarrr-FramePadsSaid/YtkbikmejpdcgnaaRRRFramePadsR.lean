/-
  The walk of the statement on pages as the row wants it: the contracts first, then the arguments, the world, and what the row knows of them.
-/
import Derived.Test.YtkbikmejpdcgnaaRRRFramePadsW
namespace Go.Proofs.YtkbikmejpdcgnaaRRR
open Go.ChangeShapes Go.WideShapes Go.ChangeAt Go.RowKit

theorem framePads_row (haw : Awake13) (hpad : Pads13) (hnone : PadsNone13) (A : Option Addr) (n c : Nat) (l : List UInt8) (size : Int) (W : World) (hs : Bs W W.heap.size A n l) (hnc : n ≤ c) (_ : -9223372036854775808 ≤ size) (_ : size ≤ 9223372036854775807) :
    Calls Try.prog 3 #[.slice A n c, .int .i64 size] W fun e w' => e = .returned (.bool true) ∧ Below W.heap.size W w' :=
  framePads_walk haw hpad hnone hs (Nat.le_refl _) hnc size
end Go.Proofs.YtkbikmejpdcgnaaRRR
