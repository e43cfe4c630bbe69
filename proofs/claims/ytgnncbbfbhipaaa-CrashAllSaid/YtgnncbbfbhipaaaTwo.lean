/-
  A struct of two cells in a block of its own: what becomes of it as the world goes on.
-/
import Derived.Test.YtgnncbbfbhipaaaChecked
import Derived.WalkKit
import Derived.ProofKit
import Derived.Below
namespace Go.Proofs.Ytgnncbbfbhipaaa
open Go.RowKit

/-- block n has two cells -/
def Two (w : World) (n : Nat) (a b : Value) : Prop := n < w.heap.size ∧ w.cell? ⟨n, 0, none⟩ = some a ∧ w.cell? ⟨n, 1, none⟩ = some b
theorem size_alloc (w : World) (o : Obj) : (w.alloc o).heap.size = w.heap.size + 1 := by simp
theorem Two.below {w w' : World} {n : Nat} {a b : Value} (h : Two w n a b) (hb : Below w.heap.size w w') : Two w' n a b := by
  obtain ⟨h1, h2, h3⟩ := h
  exact ⟨Nat.lt_of_lt_of_le h1 hb.size, by rw [hb.cell (p := ⟨n, 0, none⟩) h1]; exact h2, by rw [hb.cell (p := ⟨n, 1, none⟩) h1]; exact h3⟩
theorem Two.alloc {w : World} {n : Nat} {a b : Value} (h : Two w n a b) (o : Obj) : Two (w.alloc o) n a b :=
  h.below ((Below.refl _ _).alloc (Nat.le_refl _) o)
theorem Two.new (w : World) (a b : Value) (t : TypeId) : Two (w.alloc (.cells #[a, b] t)) w.heap.size a b := by
  refine ⟨by simp, ?_, ?_⟩ <;> simp
theorem below_box {w w1 w' : World} {o : Obj} (h : Below w.heap.size w w1) (hb : Below (w1.alloc o).heap.size (w1.alloc o) w') : Below w.heap.size w w' :=
  (h.alloc h.size o).trans (hb.mono (h.alloc h.size o).size)
theorem below_next {w w1 w' : World} (h : Below w.heap.size w w1) (hb : Below w1.heap.size w1 w') : Below w.heap.size w w' := h.trans (hb.mono h.size)
/-- the second of two structs, boxed one behind the other -/
theorem Two.second (w : World) (o : Obj) (a b : Value) (t : TypeId) : Two ((w.alloc o).alloc (.cells #[a, b] t)) (w.heap.size + 1) a b := by
  have := Two.new (w.alloc o) a b t
  rwa [size_alloc] at this
theorem below_box2 {w w1 w' : World} {o o2 : Obj} (h : Below w.heap.size w w1) (hb : Below ((w1.alloc o).alloc o2).heap.size ((w1.alloc o).alloc o2) w') : Below w.heap.size w w' :=
  below_box (h.alloc h.size o) hb
end Go.Proofs.Ytgnncbbfbhipaaa
