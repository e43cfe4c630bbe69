/-
  A struct of two cells in a block of its own, which may be written: what becomes of it as the world goes on.
-/
import Derived.Test.YtlonpimnjjkfpaaChecked
import Derived.WalkKit
import Derived.ProofKit
import Derived.Below
namespace Go.Proofs.Ytlonpimnjjkfpaa
open Go.RowKit

/-- block n has two cells, which may be written -/
def Duo (w : World) (n : Nat) (a b : Value) : Prop :=
  n < w.heap.size ∧ w.cell? ⟨n, 0, none⟩ = some a ∧ w.cell? ⟨n, 1, none⟩ = some b ∧ w.frozen? ⟨n, 0, none⟩ = false ∧ w.frozen? ⟨n, 1, none⟩ = false
theorem Duo.below {w w' : World} {n : Nat} {a b : Value} (h : Duo w n a b) (hb : Below w.heap.size w w') : Duo w' n a b := by
  obtain ⟨h1, h2, h3, h4, h5⟩ := h
  exact ⟨Nat.lt_of_lt_of_le h1 hb.size, (hb.cell (p := ⟨n, 0, none⟩) h1).trans h2, (hb.cell (p := ⟨n, 1, none⟩) h1).trans h3, (hb.frozen (p := ⟨n, 0, none⟩) h1).trans h4, (hb.frozen (p := ⟨n, 1, none⟩) h1).trans h5⟩
theorem Duo.alloc {w : World} {n : Nat} {a b : Value} (h : Duo w n a b) (o : Obj) : Duo (w.alloc o) n a b :=
  h.below ((Below.refl _ _).alloc (Nat.le_refl _) o)
theorem Duo.drew {w : World} {n : Nat} {a b : Value} (h : Duo w n a b) : Duo w.drew n a b := h
theorem Duo.new (w : World) (a b : Value) (t : TypeId) : Duo (w.alloc (.cells #[a, b] t)) w.heap.size a b := by
  refine ⟨by simp, ?_, ?_, ?_, ?_⟩ <;> simp
/-- the second of two, the third of three -/
theorem Duo.second (w : World) (o : Obj) (a b : Value) (t : TypeId) : Duo ((w.alloc o).alloc (.cells #[a, b] t)) (w.heap.size + 1) a b := by
  have := Duo.new (w.alloc o) a b t
  rwa [show (w.alloc o).heap.size = w.heap.size + 1 by simp] at this
theorem Duo.third (w : World) (o o2 : Obj) (a b : Value) (t : TypeId) : Duo (((w.alloc o).alloc o2).alloc (.cells #[a, b] t)) (w.heap.size + 1 + 1) a b := by
  have := Duo.second (w.alloc o) o2 a b t
  rwa [show (w.alloc o).heap.size = w.heap.size + 1 by simp] at this
theorem below_one (w : World) (a : Obj) : Below w.heap.size w (w.alloc a) := (Below.refl _ _).alloc (Nat.le_refl _) _
theorem below_new2 (w : World) (a b : Obj) : Below w.heap.size w ((w.alloc a).alloc b) := (below_one w a).alloc (below_one w a).size _
theorem below_new3 (w : World) (a b c : Obj) : Below w.heap.size w (((w.alloc a).alloc b).alloc c) := (below_new2 w a b).alloc (below_new2 w a b).size _
theorem below_put2 {w w' : World} {n B : Nat} (h : Below B w w') (hn : B ≤ n) (i j : Nat) (x y : Value) : Below B w ((w'.setCell ⟨n, i, none⟩ x).setCell ⟨n, j, none⟩ y) :=
  (h.setCell hn _).setCell hn _
end Go.Proofs.Ytlonpimnjjkfpaa
