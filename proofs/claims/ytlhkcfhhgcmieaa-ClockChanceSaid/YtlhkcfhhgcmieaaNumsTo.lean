/-
  Numbers as a row of the call's own.
-/
import Derived.Test.YtlhkcfhhgcmieaaChecked
import Derived.Test.YtlhkcfhhgcmieaaIntVals
import Derived.Lib.Hide
import Derived.IntWalk
namespace Go.Proofs.Ytlhkcfhhgcmieaa
open Go.ChangeShapes Go.WideShapes Go.ChangeAt Go.RowKit
set_option maxRecDepth 100000

theorem int_infoS : (Try.prog.info? 3).map (fun i => (i.zero, i.size, i.bytes)) = some (some (.int .i64 0), 1, 8) := by kernel_rfl
/-- numbers, as a row of the call's own -/
def NumsTo (l : List Int) (w : World) (e : Ending) (w' : World) : Prop :=
  ∃ A c, e = .returned (.slice A l.length c) ∧ Vs w' w'.heap.size A l.length (nums .i64 l) ∧ l.length ≤ c ∧ Below w.heap.size w w'
theorem nums_one (l : List Int) : ∀ u ∈ nums .i64 l, u.oneCell' = true := by
  intro u hu
  obtain ⟨x, _, rfl⟩ := List.mem_map.1 hu
  rfl
end Go.Proofs.Ytlhkcfhhgcmieaa
