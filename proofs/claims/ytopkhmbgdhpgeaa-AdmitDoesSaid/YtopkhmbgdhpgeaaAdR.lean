/-
  The walks of AdmitDoes and AdmitTwice as their rows ask for them.
-/
import Derived.Test.YtopkhmbgdhpgeaaAdDoesW
import Derived.Test.YtopkhmbgdhpgeaaAdTwiceW
import Derived.Test.YtopkhmbgdhpgeaaAdNote
namespace Go.Proofs.Ytopkhmbgdhpgeaa
open Go.RowKit
theorem admitDoes_walk (A : Option Addr) (n c : Nat) (L : List Int) (o len most : Int) (w : World) (h : Vs w w.heap.size A n (nums .i64 L)) (_ : n ≤ c) (_ : ∀ z ∈ L, (Lit.int .i64 z).wf = true) (_ : -9223372036854775808 ≤ o) (_ : o ≤ 9223372036854775807) (_ : -9223372036854775808 ≤ len) (_ : len ≤ 9223372036854775807) (_ : -9223372036854775808 ≤ most) (_ : most ≤ 9223372036854775807) :
    Calls Try.prog 3 #[.slice A n c, .int .i64 o, .int .i64 len, .int .i64 most] w fun e w' => e = .returned (.bool true) ∧ Below w.heap.size w w' := admitDoes_any door_prg A n c L o len most w h
theorem admitTwice_walk (A : Option Addr) (n c : Nat) (L : List Int) (o len : Int) (w : World) (h : Vs w w.heap.size A n (nums .i64 L)) (_ : n ≤ c) (_ : ∀ z ∈ L, (Lit.int .i64 z).wf = true) (_ : -9223372036854775808 ≤ o) (_ : o ≤ 9223372036854775807) (_ : -9223372036854775808 ≤ len) (h1 : len ≤ 9223372036854775807) :
    Calls Try.prog 4 #[.slice A n c, .int .i64 o, .int .i64 len] w fun e w' => e = .returned (.bool true) ∧ Below w.heap.size w w' := admitTwice_any door_prg A n c L o len w h h1
end Go.Proofs.Ytopkhmbgdhpgeaa
