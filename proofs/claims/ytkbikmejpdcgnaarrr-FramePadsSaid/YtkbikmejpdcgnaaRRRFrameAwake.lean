/-
  The example of layer 13, and the program's own Put, as the walks take them.
-/
import Derived.Test.YtkbikmejpdcgnaaRRRChecked
import Derived.Test.YtkbikmejpdcgnaaRRRBytes
import Derived.Test.YtkbikmejpdcgnaaRRRFrameMath
import Derived.Lib.Hide
namespace Go.Proofs.YtkbikmejpdcgnaaRRR
open Go.ChangeShapes Go.WideShapes Go.ChangeAt Go.RowKit

/-- the example is right -/
def Awake13 : Prop := ∀ w, Calls Try.prog 4 #[] w fun e w' => e = .returned (.bool true) ∧ Below w.heap.size w w'
/-- Put of a record that has not too many bytes -/
def Puts13 : Prop := ∀ (kind : UInt8) (seq : Nat) (A : Option Addr) (n c : Nat) (l : List UInt8) (B : Nat) (w : World), Bs w B A n l → B ≤ w.heap.size → n ≤ c → n ≤ 4096 → seq < 18446744073709551616 → Calls Try.prog 6 #[.agg #[.int .u8 (kind.toNat : Int), .int .u64 (seq : Int), .slice A n c]] w fun e w' =>
  ∃ A' c', e = .returned (.tuple #[.slice A' (n + 16) c', .int .i64 0]) ∧ Bs w' w'.heap.size A' (n + 16) (Fm.frame kind seq l) ∧ n + 16 ≤ c' ∧ Below w.heap.size w w'
/-- Put of a record that has too many -/
def PutsLong13 : Prop := ∀ (kind : UInt8) (seq : Nat) (A : Option Addr) (n c : Nat) (w : World), 4096 < n → Calls Try.prog 6 #[.agg #[.int .u8 (kind.toNat : Int), .int .u64 (seq : Int), .slice A n c]] w fun e w' =>
  ∃ A' c', e = .returned (.tuple #[.slice A' 0 c', .int .i64 10]) ∧ Below w.heap.size w w'
end Go.Proofs.YtkbikmejpdcgnaaRRR
