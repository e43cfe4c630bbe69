/-
  A struct of three cells in a block of its own: what becomes of it as the world goes on.
-/
import Derived.Test.YtidjajdgphkbbaaRRChecked
import Derived.WalkKit
import Derived.ProofKit
import Derived.Below
namespace Go.Proofs.YtidjajdgphkbbaaRR
open Go.RowKit

/-- block n has three cells, which may be written -/
def Three (w : World) (n : Nat) (a b c : Value) : Prop :=
  n < w.heap.size ∧ w.cell? ⟨n, 0, none⟩ = some a ∧ w.cell? ⟨n, 1, none⟩ = some b ∧ w.cell? ⟨n, 2, none⟩ = some c ∧ w.frozen? ⟨n, 0, none⟩ = false ∧ w.frozen? ⟨n, 1, none⟩ = false ∧ w.frozen? ⟨n, 2, none⟩ = false
theorem Three.below {w w' : World} {n : Nat} {a b c : Value} (h : Three w n a b c) (hb : Below w.heap.size w w') : Three w' n a b c := by
  obtain ⟨h1, h2, h3, h4, h5, h6, h7⟩ := h
  exact ⟨Nat.lt_of_lt_of_le h1 hb.size, (hb.cell (p := ⟨n, 0, none⟩) h1).trans h2, (hb.cell (p := ⟨n, 1, none⟩) h1).trans h3, (hb.cell (p := ⟨n, 2, none⟩) h1).trans h4,
    (hb.frozen (p := ⟨n, 0, none⟩) h1).trans h5, (hb.frozen (p := ⟨n, 1, none⟩) h1).trans h6, (hb.frozen (p := ⟨n, 2, none⟩) h1).trans h7⟩
theorem Three.alloc {w : World} {n : Nat} {a b c : Value} (h : Three w n a b c) (o : Obj) : Three (w.alloc o) n a b c :=
  h.below ((Below.refl _ _).alloc (Nat.le_refl _) o)
theorem Three.new (w : World) (a b c : Value) (t : TypeId) : Three (w.alloc (.cells #[a, b, c] t)) w.heap.size a b c := by
  refine ⟨by simp, ?_, ?_, ?_, ?_, ?_, ?_⟩ <;> simp
/-- three cells of a block of the call's own, written -/
theorem below_set3 {w w' : World} {n B : Nat} (h : Below B w w') (hn : B ≤ n) (x y z : Value) : Below B w (((w'.setCell ⟨n, 0, none⟩ x).setCell ⟨n, 1, none⟩ y).setCell ⟨n, 2, none⟩ z) :=
  ((h.setCell hn _).setCell hn _).setCell hn _
theorem below_put3 {w w' : World} {n B : Nat} (h : Below B w w') (hn : B ≤ n) (i j k : Nat) (x y z : Value) : Below B w (((w'.setCell ⟨n, i, none⟩ x).setCell ⟨n, j, none⟩ y).setCell ⟨n, k, none⟩ z) :=
  ((h.setCell hn _).setCell hn _).setCell hn _
theorem below_box3 {w w1 w' : World} {o : Obj} (h : Below w.heap.size w w1) (hb : Below (w1.alloc o).heap.size (w1.alloc o) w') : Below w.heap.size w w' :=
  (h.alloc h.size o).trans (hb.mono (h.alloc h.size o).size)
theorem below_next3 {w w1 w' : World} (h : Below w.heap.size w w1) (hb : Below w1.heap.size w1 w') : Below w.heap.size w w' := h.trans (hb.mono h.size)
end Go.Proofs.YtidjajdgphkbbaaRR
