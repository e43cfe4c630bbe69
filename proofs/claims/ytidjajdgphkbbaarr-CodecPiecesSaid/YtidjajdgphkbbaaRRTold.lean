/-
  What a call that makes bytes tells: a slice that reads as a list; and that it is new.
-/
import Derived.Test.YtidjajdgphkbbaaRRBytes
import Derived.Test.YtidjajdgphkbbaaRRCrcMath
namespace Go.Proofs.YtidjajdgphkbbaaRR
open Go.ChangeShapes Go.WideShapes Go.ChangeAt Go.RowKit

/-- some slice that reads as these bytes; nothing that was there has turned -/
def Told (w : World) (L : List UInt8) (e : Ending) (w' : World) : Prop :=
  ∃ A cap, e = .returned (.slice A L.length cap) ∧ Bs w' w'.heap.size A L.length L ∧ L.length ≤ cap ∧ Below w.heap.size w w'

/-- and it is new -/
def ToldNew (w : World) (L : List UInt8) (e : Ending) (w' : World) : Prop :=
  ∃ A cap, e = .returned (.slice A L.length cap) ∧ Bs w' w'.heap.size A L.length L ∧ L.length ≤ cap ∧ Below w.heap.size w w' ∧ ∀ a : Addr, A = some a → w.heap.size ≤ a.block
theorem ToldNew.told {w w' : World} {L : List UInt8} {e : Ending} (h : ToldNew w L e w') : Told w L e w' := by
  obtain ⟨A, cap, h1, h2, h3, h4, -⟩ := h
  exact ⟨A, cap, h1, h2, h3, h4⟩
theorem low_int (s k : Nat) : (s : Int) / 2 ^ k % 256 = ((Cm.low s k).toNat : Int) := by
  rw [Cm.low_toNat, Int.natCast_emod, Int.natCast_ediv, Int.natCast_pow]
  rfl
end Go.Proofs.YtidjajdgphkbbaaRR
