/-
  What the listed variable errors.errorType gives: its one cell holds the handle of the type error.
-/
import Derived.Test.YtlilkcbhlinolaaDoorRows
import Derived.Test.YtlilkcbhlinolaaDoorErrorsAs
import Derived.LaidSub
namespace Go.Proofs.YtlilkcbhlinolaaDoor
open Go.RowKit

theorem gErr : Tryd.prog.globalNamed "errors.errorType" = some 0 := by kernel_rfl
theorem rowErr : ((List.range Tryd.prog.types.size).all fun t => !(Tryd.prog.rowNamed t [101, 114, 114, 111, 114]) || t == 46) = true := by kernel_rfl
theorem cutErr : (Tryd.prog.cutTypes.find? (·.1 == "internal/reflectlite.rtype")).map (·.2) = some 97 := by kernel_rfl
theorem errorType_one {W : World} (h : laidMetH Tryd.prog [("errors.errorType", Rows.laid_errors_errorType)] W) :
    0 < W.heap.size ∧ W.cell? ⟨0, 0, none⟩ = some (.iface 97 (.agg #[.pointer (some ⟨HG, 46, none⟩)])) := by
  have h3 := (laidMetH_iff.1 h).2
  have h4 := h3 ("errors.errorType", Rows.laid_errors_errorType) (List.mem_filter.2 ⟨List.mem_singleton.2 rfl, rfl⟩)
  change ∃ name u ty, (Rows.laid_errors_errorType : DataW Unit).handleName? = some name ∧ (Tryd.prog.cutTypes.find? (·.1 == "internal/reflectlite.rtype")).map (·.2) = some u ∧ ty < Tryd.prog.types.size ∧ Tryd.prog.rowNamed ty name = true ∧
      W.var? Tryd.prog "errors.errorType" = some #[.iface u (.agg #[typeHandle Tryd.prog ty])] at h4
  obtain ⟨name, u, ty, hn, hu, hty, hrow, hv⟩ := h4
  obtain rfl : [101, 114, 114, 111, 114] = name := Option.some.inj ((show (Rows.laid_errors_errorType : DataW Unit).handleName? = some [101, 114, 114, 111, 114] from rfl).symm.trans hn)
  obtain rfl : 97 = u := Option.some.inj (cutErr.symm.trans hu)
  have he := List.all_eq_true.1 rowErr ty (List.mem_range.2 hty)
  rw [hrow] at he
  obtain rfl : ty = 46 := by simpa using he
  have hc := World.var?_cell gErr hv 0
  have hc2 : W.cell? ⟨0, 0, none⟩ = some (.iface 97 (.agg #[.pointer (some ⟨HG, 46, none⟩)])) := hc
  exact ⟨World.block_lt_of_cell? W _ hc2, hc2⟩
end Go.Proofs.YtlilkcbhlinolaaDoor
