/-
  CutsTells and CutsWhole answer true: their walks, without what they were given.
-/
import Derived.Test.YtlonpimnjjkfpaaCuts
import Derived.Test.YtlonpimnjjkfpaaCutsTellsW
import Derived.Test.YtlonpimnjjkfpaaCutsWholeW
namespace Go.Proofs.Ytlonpimnjjkfpaa
open Go.RowKit

theorem tells_walk (i N S a b : Int) (w : World) (i1 : -9223372036854775808 ≤ i) (i2 : i ≤ 9223372036854775807) (n1 : -9223372036854775808 ≤ N) (n2 : N ≤ 9223372036854775807) (s1 : -9223372036854775808 ≤ S) (s2 : S ≤ 9223372036854775807)
    (a1 : -9223372036854775808 ≤ a) (a2 : a ≤ 9223372036854775807) (b1 : -9223372036854775808 ≤ b) (b2 : b ≤ 9223372036854775807) :
    Calls Try.prog 3 #[.int .i64 i, .int .i64 N, .int .i64 S, .agg #[.int .i64 a, .int .i64 b]] w fun e w' => e = .returned (.bool true) ∧ Below w.heap.size w w' :=
  cutsTells_on cuts_bounds cuts_part cuts_right cuts_of cuts_count cuts_last i N S a b w ⟨i1, i2⟩ ⟨n1, n2⟩ ⟨s1, s2⟩ ⟨a1, a2⟩ ⟨b1, b2⟩
theorem whole_walk (N S x : Int) (w : World) (n1 : -9223372036854775808 ≤ N) (n2 : N ≤ 9223372036854775807) (s1 : -9223372036854775808 ≤ S) (s2 : S ≤ 9223372036854775807) (x1 : -9223372036854775808 ≤ x) (x2 : x ≤ 9223372036854775807) :
    Calls Try.prog 5 #[.int .i64 N, .int .i64 S, .int .i64 x] w fun e w' => e = .returned (.bool true) ∧ Below w.heap.size w w' :=
  cutsWhole_on cuts_bounds cuts_count cuts_last N S x w ⟨n1, n2⟩ ⟨s1, s2⟩ ⟨x1, x2⟩
end Go.Proofs.Ytlonpimnjjkfpaa
