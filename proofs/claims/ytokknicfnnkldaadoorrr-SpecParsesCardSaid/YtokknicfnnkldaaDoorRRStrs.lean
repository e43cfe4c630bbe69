/-
  A list of texts as values.
-/
import Derived.Test.YtokknicfnnkldaaDoorRRVals
import Derived.Test.YtokknicfnnkldaaDoorRRTextTrim
namespace Go.Proofs.YtokknicfnnkldaaDoorRR
open Go.ChangeShapes Go.WideShapes Go.ChangeAt Go.RowKit

/-- a list of texts as values -/
def strs (l : List (List UInt8)) : List Value := l.map fun x => .string (Str x)
theorem strs_length (l : List (List UInt8)) : (strs l).length = l.length := by simp [strs]
theorem strs_get (l : List (List UInt8)) (j : Nat) (h : j < (strs l).length) (h' : j < l.length) : (strs l)[j] = .string (Str l[j]) := by simp [strs]
theorem strs_append (l m : List (List UInt8)) : strs l ++ strs m = strs (l ++ m) := by simp [strs]
theorem strs_one (l : List (List UInt8)) : ∀ u ∈ strs l, u.oneCell' = true := by
  intro u hu
  obtain ⟨x, _, rfl⟩ := List.mem_map.1 hu
  rfl
end Go.Proofs.YtokknicfnnkldaaDoorRR
