/-
  A struct of four cells in a block of its own: what becomes of it as the world goes on.
-/
import Derived.Test.YtidjajdgphkbbaaRRChecked
import Derived.WalkKit
import Derived.ProofKit
import Derived.Below
namespace Go.Proofs.YtidjajdgphkbbaaRR
open Go.RowKit

/-- block n has four cells, which may be written -/
def Four (w : World) (n : Nat) (a b c d : Value) : Prop :=
  n < w.heap.size ∧ w.cell? ⟨n, 0, none⟩ = some a ∧ w.cell? ⟨n, 1, none⟩ = some b ∧ w.cell? ⟨n, 2, none⟩ = some c ∧ w.cell? ⟨n, 3, none⟩ = some d ∧ w.frozen? ⟨n, 0, none⟩ = false ∧ w.frozen? ⟨n, 1, none⟩ = false ∧ w.frozen? ⟨n, 2, none⟩ = false ∧ w.frozen? ⟨n, 3, none⟩ = false
theorem Four.below {w w' : World} {n : Nat} {a b c d : Value} (h : Four w n a b c d) (hb : Below w.heap.size w w') : Four w' n a b c d := by
  obtain ⟨h1, h2, h3, h4, h5, h6, h7, h8, h9⟩ := h
  exact ⟨Nat.lt_of_lt_of_le h1 hb.size, (hb.cell (p := ⟨n, 0, none⟩) h1).trans h2, (hb.cell (p := ⟨n, 1, none⟩) h1).trans h3, (hb.cell (p := ⟨n, 2, none⟩) h1).trans h4, (hb.cell (p := ⟨n, 3, none⟩) h1).trans h5,
    (hb.frozen (p := ⟨n, 0, none⟩) h1).trans h6, (hb.frozen (p := ⟨n, 1, none⟩) h1).trans h7, (hb.frozen (p := ⟨n, 2, none⟩) h1).trans h8, (hb.frozen (p := ⟨n, 3, none⟩) h1).trans h9⟩
theorem Four.alloc {w : World} {n : Nat} {a b c d : Value} (h : Four w n a b c d) (o : Obj) : Four (w.alloc o) n a b c d :=
  h.below ((Below.refl _ _).alloc (Nat.le_refl _) o)
theorem Four.new (w : World) (a b c d : Value) (t : TypeId) : Four (w.alloc (.cells #[a, b, c, d] t)) w.heap.size a b c d := by
  refine ⟨by simp, ?_, ?_, ?_, ?_, ?_, ?_, ?_, ?_⟩ <;> simp
theorem below_new4 (w : World) (o : Obj) : Below w.heap.size w (w.alloc o) := (Below.refl _ _).alloc (Nat.le_refl _) o
end Go.Proofs.YtidjajdgphkbbaaRR
