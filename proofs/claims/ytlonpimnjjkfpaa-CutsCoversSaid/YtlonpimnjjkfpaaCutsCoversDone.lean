/-
  CutsCovers answers true: its walk, without what it was given.
-/
import Derived.Test.YtlonpimnjjkfpaaCutsCover
import Derived.Test.YtlonpimnjjkfpaaCutsCoversW
import Derived.Test.YtlonpimnjjkfpaaRowSpans
namespace Go.Proofs.Ytlonpimnjjkfpaa
open Go.RowKit

theorem covers_walk (A : Option Addr) (n c : Nat) (L : List (Int × Int)) (N S : Int) (w : World) (h : Sps w w.heap.size A n L) (_hc : n ≤ c) (_hL : ∀ p ∈ L, SpanWf p) (_n1 : -9223372036854775808 ≤ N) (_n2 : N ≤ 9223372036854775807) (_s1 : -9223372036854775808 ≤ S) (_s2 : S ≤ 9223372036854775807) :
    Calls Try.prog 4 #[.slice A n c, .int .i64 N, .int .i64 S] w fun e w' => e = .returned (.bool true) ∧ Below w.heap.size w w' :=
  cutsCovers_on cuts_bounds (fun A n c B L N S W h hB hn => cover_any A n c B L N S W h hB hn) A n c L N S w h
end Go.Proofs.Ytlonpimnjjkfpaa
