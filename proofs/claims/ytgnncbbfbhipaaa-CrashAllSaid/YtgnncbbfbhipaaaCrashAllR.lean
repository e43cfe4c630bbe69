/-
  CrashAll's walk, as its row asks for it: the bounds of the numbers are not wanted.
-/
import Derived.Test.YtgnncbbfbhipaaaCrashAllW
namespace Go.Proofs.Ytgnncbbfbhipaaa
theorem crashAll_row {p1 p2 p3 p4 p5 p6 p7 p8 : Prop} (x cut stop i : Int) (K : Nat) (t u : Int) (w : World) (_ : p1) (_ : p2) (_ : p3) (_ : p4) (_ : p5) (_ : p6) (_ : p7) (_ : p8) (hK : K < 18446744073709551616) :
    Calls Try.prog 4 #[.int .i64 x, .int .i64 cut, .int .i64 stop, .int .i64 i, .agg #[.int .u64 K, .int .i64 t, .int .i64 u]] w (Yes w) := crashAll_walk x cut stop i K t u w hK
end Go.Proofs.Ytgnncbbfbhipaaa
