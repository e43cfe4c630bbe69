/-
  The library's variable internal/bytealg.MaxLen holds some int, out of the world's shape.
-/
import Derived.Test.YtlilkcbhlinolaaDoorChecked
import Derived.Shelf.Vars
namespace Go.Proofs.YtlilkcbhlinolaaDoor

theorem maxLen_some {W : World} (h : W.ShapedOpen Tryd.prog) : ∃ m, W.cell? ⟨1, 0, none⟩ = some (.int .i64 m) :=
  Go.Proofs.cell_of_shapedOpen_int (zero := #[.int .i64 0]) (t := 3) h (of_decide_eq_true (by kernel_rfl)) (by kernel_rfl) rfl (by kernel_rfl) (by kernel_rfl) Tryd.underlying3
end Go.Proofs.YtlilkcbhlinolaaDoor
