/-
  Contracts: whether a span may be: span.Right, and the document's own Right.
-/
import Derived.Test.YtlonpimnjjkfpaaTwo
import Derived.Test.YtlonpimnjjkfpaaFour
import Derived.Below
namespace Go.Proofs.Ytlonpimnjjkfpaa
open Go.ChangeShapes Go.WideShapes Go.ChangeAt Go.RowKit

theorem spanRight_walk (a b : Int) (p q r : Bool) (w : World) (h1 : decide (0 ≤ a) = p) (h2 : decide (a < b) = q) (h3 : decide (b ≤ 4611686018427387903) = r) :
    Calls Try.prog 21 #[.agg #[.int .i64 a, .int .i64 b]] w fun e w' => e = .returned (.bool (p && q && r)) ∧ Below w.heap.size w w' := by
  cases p <;> cases q <;> cases r
  all_goals
    go_enter Try.func21, Try.ntmps21
    go_wp2
    go_ret
    exact ⟨rfl, below_new4 w _⟩
theorem refRight_walk (a b : Int) (p q r : Bool) (w : World) (h1 : decide (0 ≤ a) = p) (h2 : decide (a < b) = q) (h3 : decide (b ≤ 4611686018427387903) = r) :
    Calls Try.prog 14 #[.agg #[.int .i64 a, .int .i64 b]] w fun e w' => e = .returned (.bool (p && q && r)) ∧ Below w.heap.size w w' := by
  cases p <;> cases q <;> cases r
  all_goals
    go_enter Try.func14, Try.ntmps14
    go_wp2
    go_ret
    exact ⟨rfl, below_new4 w _⟩

/-- a span may be -/
def Cr.spanB (a b : Int) : Bool := decide (0 ≤ a) && decide (a < b) && decide (b ≤ 4611686018427387903)
theorem spanRight_any (a b : Int) (w : World) :
    Calls Try.prog 21 #[.agg #[.int .i64 a, .int .i64 b]] w fun e w' => e = .returned (.bool (Cr.spanB a b)) ∧ Below w.heap.size w w' :=
  spanRight_walk a b _ _ _ w rfl rfl rfl
theorem refRight_any (a b : Int) (w : World) :
    Calls Try.prog 14 #[.agg #[.int .i64 a, .int .i64 b]] w fun e w' => e = .returned (.bool (Cr.spanB a b)) ∧ Below w.heap.size w w' :=
  refRight_walk a b _ _ _ w rfl rfl rfl
theorem spanB_parts {a b : Int} (h : Cr.spanB a b = true) : 0 ≤ a ∧ a < b ∧ b ≤ 4611686018427387903 := by
  unfold Cr.spanB at h
  simp at h
  omega
end Go.Proofs.Ytlonpimnjjkfpaa
