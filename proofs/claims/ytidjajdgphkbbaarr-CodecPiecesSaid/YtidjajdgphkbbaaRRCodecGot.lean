/-
  What a Get of a piece gives; a struct of four cells in a block of the call's own, written; what stays.
-/
import Derived.Test.YtidjajdgphkbbaaRRCodecRef
import Derived.Test.YtidjajdgphkbbaaRRSlice
import Derived.Test.YtidjajdgphkbbaaRRFour
import Derived.Lib.Hide
namespace Go.Proofs.YtidjajdgphkbbaaRR
open Go.ChangeShapes Go.WideShapes Go.ChangeAt Go.RowKit
set_option maxRecDepth 100000

/-- a piece (zero, where there is none), and what says whether there is one -/
def GotPiece (x : Cp) (v : Value) (w : World) (e : Ending) (w' : World) : Prop :=
  ∃ A c, e = .returned (.tuple #[pieceV x.o x.g x.i A x.body.length c, v]) ∧ Bs w' w'.heap.size A x.body.length x.body ∧ x.body.length ≤ c ∧ Below w.heap.size w w'
/-- none -/
def Cp.zero : Cp := ⟨0, 0, 0, []⟩
theorem got_none {w W : World} {y : Ending} {v : Value} (hy : y = .returned (.tuple #[pieceV 0 0 0 none 0 0, v])) (hb : Below w.heap.size w W) : GotPiece Cp.zero v w y W :=
  ⟨none, 0, hy, Bs.nil _ _ _, Nat.le_refl _, hb⟩
theorem below_set4 {w w' : World} {n B : Nat} (h : Below B w w') (hn : B ≤ n) (x y z u : Value) : Below B w ((((w'.setCell ⟨n, 0, none⟩ x).setCell ⟨n, 1, none⟩ y).setCell ⟨n, 2, none⟩ z).setCell ⟨n, 3, none⟩ u) :=
  (((h.setCell hn _).setCell hn _).setCell hn _).setCell hn _
theorem Four.set {W : World} {n : Nat} {a b c d x y z u : Value} (h : Four W n a b c d) :
    Four ((((W.setCell ⟨n, 0, none⟩ x).setCell ⟨n, 1, none⟩ y).setCell ⟨n, 2, none⟩ z).setCell ⟨n, 3, none⟩ u) n x y z u := by
  obtain ⟨h1, c0, c1, c2, c3, f0, f1, f2, f3⟩ := h
  refine ⟨?_, ?_, ?_, ?_, ?_, ?_, ?_, ?_, ?_⟩ <;> simp [go_sem, c0, c1, c2, c3, f0, f1, f2, f3, h1]
set_option linter.unusedSimpArgs false in
theorem Four.far {W : World} {n m : Nat} {a b c d x y z u : Value} (h : Four W n a b c d) (hm : n ≠ m) :
    Four ((((W.setCell ⟨m, 0, none⟩ x).setCell ⟨m, 1, none⟩ y).setCell ⟨m, 2, none⟩ z).setCell ⟨m, 3, none⟩ u) n a b c d := by
  obtain ⟨h1, c0, c1, c2, c3, f0, f1, f2, f3⟩ := h
  refine ⟨?_, ?_, ?_, ?_, ?_, ?_, ?_, ?_, ?_⟩ <;> simp [go_sem, c0, c1, c2, c3, f0, f1, f2, f3, h1, hm, Ne.symm hm]
theorem Bs.far4 {W : World} {m : Nat} {x y z u : Value} {B : Nat} {A : Option Addr} {n : Nat} {l : List UInt8} (h : Bs W B A n l) (hm : ∀ a : Addr, A = some a → a.block ≠ m) :
    Bs ((((W.setCell ⟨m, 0, none⟩ x).setCell ⟨m, 1, none⟩ y).setCell ⟨m, 2, none⟩ z).setCell ⟨m, 3, none⟩ u) B A n l := by
  refine ⟨h.1, fun h0 => ?_⟩
  obtain ⟨b, off, e, hb, hc⟩ := h.2 h0
  have hbm : b ≠ m := hm _ e
  refine ⟨b, off, e, hb, fun j hj => (World.cell?_of_block ?_).trans (hc j hj)⟩
  exact (Below.heap_setCell _ ⟨m, 3, none⟩ _ b hbm).trans ((Below.heap_setCell _ ⟨m, 2, none⟩ _ b hbm).trans ((Below.heap_setCell _ ⟨m, 1, none⟩ _ b hbm).trans (Below.heap_setCell _ ⟨m, 0, none⟩ _ b hbm)))
theorem cut_from7 (A : Option Addr) (n c : Nat) (h : 7 ≤ n) (w : World) :
    (Instr.slice 22 (.slice A n c) (some (.int .i64 7)) none none).run Try.prog w = .ok (.slice (behindN A c 7) (n - 7) (c - 7)) w := by
  have h1 := run_slice_l (P := Try.prog) w 22 A n c (by kernel_rfl) .i64 7 (by omega) (by omega)
  have h2 : (sizeOf (Try.prog.elem 22)).run Try.prog w = .ok 1 w := by kernel_rfl
  rw [h1, h2]
  simp [sliced, Result.andThen, behindN]
theorem num_one {l : List UInt8} (h : 0 < l.length) : Fm.num ((l.drop 0).take (1 - 0)) = (l.getD 0 0).toNat := by
  match l, h with
  | x :: _, _ => simp [Fm.num, Fm.numFrom]
/-- what stays while a region goes on: all that was there, and one cell of it -/
theorem keep_grown {w0 W V : World} {b off : Nat} {v : Value} (h : Below w0.heap.size w0 W ∧ W.cell? ⟨b, off, none⟩ = some v) (hb : b < w0.heap.size) (h3 : Below W.heap.size W V) :
    Below w0.heap.size w0 V ∧ V.cell? ⟨b, off, none⟩ = some v :=
  ⟨h.1.trans (h3.mono h.1.size), (h3.cell (p := ⟨b, off, none⟩) (Nat.lt_of_lt_of_le hb h.1.size)).trans h.2⟩
theorem keep_alloc {w0 W : World} {b off : Nat} {v : Value} {O : Obj} (h : Below w0.heap.size w0 W ∧ W.cell? ⟨b, off, none⟩ = some v) (hb : b < w0.heap.size) :
    Below w0.heap.size w0 (W.alloc O) ∧ (W.alloc O).cell? ⟨b, off, none⟩ = some v := keep_grown h hb ((Below.refl _ _).alloc (Nat.le_refl _) O)
theorem keep_set4 {w0 W : World} {b off n : Nat} {v x y z u : Value} (h : Below w0.heap.size w0 W ∧ W.cell? ⟨b, off, none⟩ = some v) (hb : b < w0.heap.size) (hn : w0.heap.size ≤ n) :
    Below w0.heap.size w0 ((((W.setCell ⟨n, 0, none⟩ x).setCell ⟨n, 1, none⟩ y).setCell ⟨n, 2, none⟩ z).setCell ⟨n, 3, none⟩ u) ∧ ((((W.setCell ⟨n, 0, none⟩ x).setCell ⟨n, 1, none⟩ y).setCell ⟨n, 2, none⟩ z).setCell ⟨n, 3, none⟩ u).cell? ⟨b, off, none⟩ = some v := by
  refine ⟨below_set4 h.1 hn _ _ _ _, (World.cell?_of_block ?_).trans h.2⟩
  have hbm : b ≠ n := by omega
  exact (Below.heap_setCell _ ⟨n, 3, none⟩ _ b hbm).trans ((Below.heap_setCell _ ⟨n, 2, none⟩ _ b hbm).trans ((Below.heap_setCell _ ⟨n, 1, none⟩ _ b hbm).trans (Below.heap_setCell _ ⟨n, 0, none⟩ _ b hbm)))
end Go.Proofs.YtidjajdgphkbbaaRR
