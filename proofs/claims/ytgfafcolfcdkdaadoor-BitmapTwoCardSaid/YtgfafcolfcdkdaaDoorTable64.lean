/-
  What the listed table of the lowest bits gives.
-/
import Derived.Test.YtgfafcolfcdkdaaDoorPost
import Derived.Test.YtgfafcolfcdkdaaDoorBitLib
import Derived.LaidSub
namespace Go.Proofs.YtgfafcolfcdkdaaDoor
open Go.ChangeShapes Go.WideShapes Go.ChangeAt Go.RowKit

theorem gTab64Type : (Tryd.prog.globals[0]?).map (·.type) = some 53 := by kernel_rfl
theorem cellsTab64 : Tryd.prog.cellsOf 53 = 64 := by kernel_rfl
theorem cellsU8 : Tryd.prog.cellsOf 5 = 1 := by kernel_rfl
theorem table64_one {W : World} (h : laidMetH Tryd.prog [("math/bits.deBruijn64tab", Rows.laid_math_bits_deBruijn64tab)] W) : Tab64 W := by
  have h2 : laidMet Tryd.prog [("math/bits.deBruijn64tab", Lib.tabData .u8 db64)] W := h
  exact Lib.tabBelow_of_tabIs (Lib.tabIs_of_head (rest := []) gDb64 gTab64Type Tryd.underlying53 Tryd.underlying5 cellsU8 cellsTab64 h2)
end Go.Proofs.YtgfafcolfcdkdaaDoor
