/-
  The walk of ClockChance as its row asks for it.
-/
import Derived.Test.YtlhkcfhhgcmieaaCkChanceW
namespace Go.Proofs.Ytlhkcfhhgcmieaa
open Go.RowKit
theorem clockChance_walk (A : Option Addr) (n c : Nat) (L : List Int) (A2 : Option Addr) (n2 c2 : Nat) (T : List Int) (w : World) (h : Vs w w.heap.size A n (nums .i64 L)) (_ : n ≤ c) (_ : ∀ z ∈ L, (Lit.int .i64 z).wf = true) (h2 : Vs w w.heap.size A2 n2 (nums .i64 T)) (_ : n2 ≤ c2) (_ : ∀ z ∈ T, (Lit.int .i64 z).wf = true) :
    Calls Try.prog 4 #[.slice A n c, .slice A2 n2 c2] w fun e w' => e = .returned (.bool true) ∧ Below w.heap.size w w' := clockChance_any A n c L A2 n2 c2 T w h h2
end Go.Proofs.Ytlhkcfhhgcmieaa
