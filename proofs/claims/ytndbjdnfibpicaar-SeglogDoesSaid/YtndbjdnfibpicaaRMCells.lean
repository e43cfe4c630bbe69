/-
  A struct of two cells in a block of its own: what becomes of it as the world goes on.
  A struct of three cells in a block of its own: what becomes of it as the world goes on.
  A struct of four cells in a block of its own: what becomes of it as the world goes on.
  nums.Fits for all numbers.
-/
import Derived.Test.YtndbjdnfibpicaaRChecked
import Derived.WalkKit
import Derived.ProofKit
import Derived.Below
import Derived.LoopTactic
import Derived.IntWalk
section
namespace Go.Proofs.YtndbjdnfibpicaaR
open Go.RowKit

/-- block n has two cells -/
def Two (w : World) (n : Nat) (a b : Value) : Prop := n < w.heap.size ∧ w.cell? ⟨n, 0, none⟩ = some a ∧ w.cell? ⟨n, 1, none⟩ = some b
theorem size_alloc (w : World) (o : Obj) : (w.alloc o).heap.size = w.heap.size + 1 := by simp
theorem Two.below {w w' : World} {n : Nat} {a b : Value} (h : Two w n a b) (hb : Below w.heap.size w w') : Two w' n a b := by
  obtain ⟨h1, h2, h3⟩ := h
  exact ⟨Nat.lt_of_lt_of_le h1 hb.size, by rw [hb.cell (p := ⟨n, 0, none⟩) h1]; exact h2, by rw [hb.cell (p := ⟨n, 1, none⟩) h1]; exact h3⟩
theorem Two.alloc {w : World} {n : Nat} {a b : Value} (h : Two w n a b) (o : Obj) : Two (w.alloc o) n a b :=
  h.below ((Below.refl _ _).alloc (Nat.le_refl _) o)
theorem Two.new (w : World) (a b : Value) (t : TypeId) : Two (w.alloc (.cells #[a, b] t)) w.heap.size a b := by
  refine ⟨by simp, ?_, ?_⟩ <;> simp
theorem below_box {w w1 w' : World} {o : Obj} (h : Below w.heap.size w w1) (hb : Below (w1.alloc o).heap.size (w1.alloc o) w') : Below w.heap.size w w' :=
  (h.alloc h.size o).trans (hb.mono (h.alloc h.size o).size)
theorem below_next {w w1 w' : World} (h : Below w.heap.size w w1) (hb : Below w1.heap.size w1 w') : Below w.heap.size w w' := h.trans (hb.mono h.size)
/-- the second of two structs, boxed one behind the other -/
theorem Two.second (w : World) (o : Obj) (a b : Value) (t : TypeId) : Two ((w.alloc o).alloc (.cells #[a, b] t)) (w.heap.size + 1) a b := by
  have := Two.new (w.alloc o) a b t
  rwa [size_alloc] at this
theorem below_box2 {w w1 w' : World} {o o2 : Obj} (h : Below w.heap.size w w1) (hb : Below ((w1.alloc o).alloc o2).heap.size ((w1.alloc o).alloc o2) w') : Below w.heap.size w w' :=
  below_box (h.alloc h.size o) hb
end Go.Proofs.YtndbjdnfibpicaaR
end
section
namespace Go.Proofs.YtndbjdnfibpicaaR
open Go.RowKit

/-- block n has three cells, which may be written -/
def Three (w : World) (n : Nat) (a b c : Value) : Prop :=
  n < w.heap.size ∧ w.cell? ⟨n, 0, none⟩ = some a ∧ w.cell? ⟨n, 1, none⟩ = some b ∧ w.cell? ⟨n, 2, none⟩ = some c ∧ w.frozen? ⟨n, 0, none⟩ = false ∧ w.frozen? ⟨n, 1, none⟩ = false ∧ w.frozen? ⟨n, 2, none⟩ = false
theorem Three.below {w w' : World} {n : Nat} {a b c : Value} (h : Three w n a b c) (hb : Below w.heap.size w w') : Three w' n a b c := by
  obtain ⟨h1, h2, h3, h4, h5, h6, h7⟩ := h
  exact ⟨Nat.lt_of_lt_of_le h1 hb.size, (hb.cell (p := ⟨n, 0, none⟩) h1).trans h2, (hb.cell (p := ⟨n, 1, none⟩) h1).trans h3, (hb.cell (p := ⟨n, 2, none⟩) h1).trans h4,
    (hb.frozen (p := ⟨n, 0, none⟩) h1).trans h5, (hb.frozen (p := ⟨n, 1, none⟩) h1).trans h6, (hb.frozen (p := ⟨n, 2, none⟩) h1).trans h7⟩
theorem Three.alloc {w : World} {n : Nat} {a b c : Value} (h : Three w n a b c) (o : Obj) : Three (w.alloc o) n a b c :=
  h.below ((Below.refl _ _).alloc (Nat.le_refl _) o)
theorem Three.new (w : World) (a b c : Value) (t : TypeId) : Three (w.alloc (.cells #[a, b, c] t)) w.heap.size a b c := by
  refine ⟨by simp, ?_, ?_, ?_, ?_, ?_, ?_⟩ <;> simp
/-- three cells of a block of the call's own, written -/
theorem below_set3 {w w' : World} {n B : Nat} (h : Below B w w') (hn : B ≤ n) (x y z : Value) : Below B w (((w'.setCell ⟨n, 0, none⟩ x).setCell ⟨n, 1, none⟩ y).setCell ⟨n, 2, none⟩ z) :=
  ((h.setCell hn _).setCell hn _).setCell hn _
theorem below_put3 {w w' : World} {n B : Nat} (h : Below B w w') (hn : B ≤ n) (i j k : Nat) (x y z : Value) : Below B w (((w'.setCell ⟨n, i, none⟩ x).setCell ⟨n, j, none⟩ y).setCell ⟨n, k, none⟩ z) :=
  ((h.setCell hn _).setCell hn _).setCell hn _
theorem below_box3 {w w1 w' : World} {o : Obj} (h : Below w.heap.size w w1) (hb : Below (w1.alloc o).heap.size (w1.alloc o) w') : Below w.heap.size w w' :=
  (h.alloc h.size o).trans (hb.mono (h.alloc h.size o).size)
theorem below_next3 {w w1 w' : World} (h : Below w.heap.size w w1) (hb : Below w1.heap.size w1 w') : Below w.heap.size w w' := h.trans (hb.mono h.size)
end Go.Proofs.YtndbjdnfibpicaaR
end
section
namespace Go.Proofs.YtndbjdnfibpicaaR
open Go.RowKit

/-- block n has four cells, which may be written -/
def Four (w : World) (n : Nat) (a b c d : Value) : Prop :=
  n < w.heap.size ∧ w.cell? ⟨n, 0, none⟩ = some a ∧ w.cell? ⟨n, 1, none⟩ = some b ∧ w.cell? ⟨n, 2, none⟩ = some c ∧ w.cell? ⟨n, 3, none⟩ = some d ∧ w.frozen? ⟨n, 0, none⟩ = false ∧ w.frozen? ⟨n, 1, none⟩ = false ∧ w.frozen? ⟨n, 2, none⟩ = false ∧ w.frozen? ⟨n, 3, none⟩ = false
theorem Four.below {w w' : World} {n : Nat} {a b c d : Value} (h : Four w n a b c d) (hb : Below w.heap.size w w') : Four w' n a b c d := by
  obtain ⟨h1, h2, h3, h4, h5, h6, h7, h8, h9⟩ := h
  exact ⟨Nat.lt_of_lt_of_le h1 hb.size, (hb.cell (p := ⟨n, 0, none⟩) h1).trans h2, (hb.cell (p := ⟨n, 1, none⟩) h1).trans h3, (hb.cell (p := ⟨n, 2, none⟩) h1).trans h4, (hb.cell (p := ⟨n, 3, none⟩) h1).trans h5,
    (hb.frozen (p := ⟨n, 0, none⟩) h1).trans h6, (hb.frozen (p := ⟨n, 1, none⟩) h1).trans h7, (hb.frozen (p := ⟨n, 2, none⟩) h1).trans h8, (hb.frozen (p := ⟨n, 3, none⟩) h1).trans h9⟩
theorem Four.alloc {w : World} {n : Nat} {a b c d : Value} (h : Four w n a b c d) (o : Obj) : Four (w.alloc o) n a b c d :=
  h.below ((Below.refl _ _).alloc (Nat.le_refl _) o)
theorem Four.new (w : World) (a b c d : Value) (t : TypeId) : Four (w.alloc (.cells #[a, b, c, d] t)) w.heap.size a b c d := by
  refine ⟨by simp, ?_, ?_, ?_, ?_, ?_, ?_, ?_, ?_⟩ <;> simp
theorem below_new4 (w : World) (o : Obj) : Below w.heap.size w (w.alloc o) := (Below.refl _ _).alloc (Nat.le_refl _) o
end Go.Proofs.YtndbjdnfibpicaaR
end
section
namespace Go.Proofs.YtndbjdnfibpicaaR
open Go.RowKit

theorem nfits_any (x lo hi : Int) (w : World) : Calls Try.prog 43 #[.int .i64 x, .int .i64 lo, .int .i64 hi] w fun e w' => e = .returned (.bool (decide (lo ≤ x ∧ x ≤ hi))) ∧ w = w' := by
  by_cases h1 : lo ≤ x
  · by_cases h2 : x ≤ hi
    · rw [decide_eq_true ⟨h1, h2⟩]
      go_enter Try.func43, Try.ntmps43
      go_wp2
      go_ret
      exact ⟨rfl, rfl⟩
    · rw [decide_eq_false (fun h => h2 h.2)]
      have e2 : decide (x ≤ hi) = false := decide_eq_false h2
      go_enter Try.func43, Try.ntmps43
      go_wp2
      go_ret
      exact ⟨rfl, rfl⟩
  · rw [decide_eq_false (fun h => h1 h.1)]
    have e1 : decide (lo ≤ x) = false := decide_eq_false h1
    go_enter Try.func43, Try.ntmps43
    go_wp2
    go_ret
    exact ⟨rfl, rfl⟩
end Go.Proofs.YtndbjdnfibpicaaR
end
