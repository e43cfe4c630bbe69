/-
  A list of integers as values.
-/
import Derived.Test.YtopkhmbgdhpgeaaVals
namespace Go.Proofs.Ytopkhmbgdhpgeaa

/-- a list of integers as values -/
def nums (k : IntKind) (l : List Int) : List Value := l.map (.int k)
theorem nums_length (k : IntKind) (l : List Int) : (nums k l).length = l.length := by simp [nums]
theorem nums_get (k : IntKind) (l : List Int) (j : Nat) (h : j < (nums k l).length) (h' : j < l.length) : (nums k l)[j] = .int k l[j] := by simp [nums]
theorem nums_append (k : IntKind) (l m : List Int) : nums k l ++ nums k m = nums k (l ++ m) := by simp [nums]
end Go.Proofs.Ytopkhmbgdhpgeaa
