/-
  Contract of text.List for every text: its elements, or none.
-/
import Derived.Test.YtokknicfnnkldaaDoorRRTextList
import Derived.Test.YtokknicfnnkldaaDoorRRRefPieces
import Derived.Test.YtokknicfnnkldaaDoorRRRefList
namespace Go.Proofs.YtokknicfnnkldaaDoorRR
open Go.ChangeShapes Go.WideShapes Go.ChangeAt Go.RowKit

theorem fine_listed (l : List UInt8) : Tx.listed l = true ↔ Fine (Tx.parts l) (Tx.parts l).length (Tx.parts l).length := by
  rw [Tx.listed_iff]
  exact ⟨fun h i hi _ => h i hi, fun h i hi => h i hi hi⟩
/-- the elements, or none where it is no list -/
def wants (l : List UInt8) : List (List UInt8) := if Tx.listed l = true then Tx.elems l else []
theorem list_any (s : ByteArray) (w : World) (hs : s.size ≤ 1000000) :
    Calls Tryd.prog 20 #[.string s] w (Gives (wants s.data.toList) (Tx.listed s.data.toList) w) := by
  unfold wants
  cases h : Tx.listed s.data.toList with
  | true =>
    rw [if_pos rfl]
    exact list_yes s w hs h
  | false =>
    rw [if_neg (by simp)]
    exact list_no s w (by omega) h
end Go.Proofs.YtokknicfnnkldaaDoorRR
