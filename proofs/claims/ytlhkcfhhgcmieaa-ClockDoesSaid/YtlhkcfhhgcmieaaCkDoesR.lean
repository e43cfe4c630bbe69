/-
  The walk of ClockDoes as its row asks for it.
-/
import Derived.Test.YtlhkcfhhgcmieaaCkDoesW
namespace Go.Proofs.Ytlhkcfhhgcmieaa
open Go.RowKit
theorem clockDoes_walk (A : Option Addr) (n c : Nat) (L : List (Int × Int)) (o : Int) (w : World) (h : Cds w w.heap.size A n L) (_ : -9223372036854775808 ≤ o) (_ : o ≤ 9223372036854775807) :
    Calls Try.prog 3 #[.slice A n c, .int .i64 o] w fun e w' => e = .returned (.bool true) ∧ Below w.heap.size w w' := clockDoes_any A n c L o w h
end Go.Proofs.Ytlhkcfhhgcmieaa
