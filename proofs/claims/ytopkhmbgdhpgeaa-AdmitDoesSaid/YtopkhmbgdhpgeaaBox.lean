/-
  A block of cells known whole. (XCkLay has the same of its own: import one of the two.)
-/
import Derived.Test.YtopkhmbgdhpgeaaChecked
import Derived.Test.YtopkhmbgdhpgeaaVals
import Derived.Test.YtopkhmbgdhpgeaaAppendCells
import Derived.Deep.MidRow
import Derived.Lib.Hide
import Derived.IntWalk
namespace Go.Proofs.Ytopkhmbgdhpgeaa
open Go.ChangeShapes Go.WideShapes Go.ChangeAt Go.RowKit
set_option maxRecDepth 100000

/-- a block of cells: what lies there -/
abbrev Bx (W : World) (b : Nat) (T : TypeId) (C : List Value) : Prop := W.heap[b]? = some (.cells C.toArray T (0, 0))
section
variable {W W' : World} {b : Nat} {C : List Value} {T : TypeId}
theorem Bx.at (h : Bx W b T C) (j : Nat) : W.cell? ⟨b, j, none⟩ = C[j]? := by
  rw [cell_of_row W b j C.toArray T (0, 0) h]
  simp
theorem Bx.frozen (h : Bx W b T C) (j : Nat) : W.frozen? ⟨b, j, none⟩ = false := by simp [World.frozen?, h]
theorem Bx.set (h : Bx W b T C) (j : Nat) (v : Value) : Bx (W.setCell ⟨b, j, none⟩ v) b T (C.set j v) := by
  simp [Bx, World.setCell, Array.getElem?_modify, h]
theorem Bx.lt (h : Bx W b T C) : b < W.heap.size := (Array.getElem?_eq_some_iff.1 h).1
theorem Bx.below (h : Bx W b T C) {B : Nat} (hb : Below B W W') (hB : b < B) : Bx W' b T C := (hb.block b hB).trans h
theorem Bx.new (W : World) (C : List Value) (T : TypeId) : Bx (W.alloc (.cells C.toArray T)) W.heap.size T C := heap_alloc_new W _
theorem Bx.alloc (h : Bx W b T C) (o : Obj) : Bx (W.alloc o) b T C := (Below.heap_alloc W o b h.lt).trans h
theorem Bx.far (h : Bx W b T C) {p : Addr} (hp : b ≠ p.block) (u : Value) : Bx (W.setCell p u) b T C := (Below.heap_setCell W p u b hp).trans h
theorem Bx.range (h : Bx W b T C) : W.rangeAt b 0 C := fun j v hj => by
  rw [Nat.zero_add, h.at]
  exact hj
theorem Bx.part (h : Bx W b T C) {o : Nat} {cs r : List Value} (e : C.drop o = cs ++ r) : W.rangeAt b o cs := fun j v hj => by
  rw [h.at, ← List.getElem?_drop, e, List.getElem?_append_left (List.getElem?_eq_some_iff.1 hj).1]
  exact hj
theorem Bx.there (h : Bx W b T C) {o n : Nat} (hn : o + n ≤ C.length) : W.there b o n := fun j hj => by
  rw [h.at, List.getElem?_eq_getElem (by omega)]
  exact ⟨rfl, h.frozen _⟩
theorem setCells_bx (b : Nat) (T : TypeId) : ∀ (vs old p r : List Value) (W : World), vs.length = old.length → Bx W b T (p ++ old ++ r) → Bx (W.setCells b p.length vs) b T (p ++ vs ++ r)
  | [], [], p, r, W, _, h => by simpa [World.setCells] using h
  | [], _ :: _, p, r, W, hl, h => by simp at hl
  | v :: vs, [], p, r, W, hl, h => by simp at hl
  | v :: vs, x :: old, p, r, W, hl, h => by
    rw [World.setCells]
    have h1 : Bx (W.setCell ⟨b, p.length, none⟩ v) b T ((p ++ [v]) ++ old ++ r) := by
      have := h.set p.length v
      have e : (p ++ x :: old ++ r).set p.length v = (p ++ [v]) ++ old ++ r := by
        rw [List.append_assoc, List.set_append_right _ _ (Nat.le_refl _), Nat.sub_self]
        simp
      rwa [e] at this
    have h2 := setCells_bx b T vs old (p ++ [v]) r _ (by simpa using hl) h1
    rw [List.length_append, List.length_singleton] at h2
    have e : (p ++ [v]) ++ vs ++ r = p ++ (v :: vs) ++ r := by simp
    rwa [e] at h2
theorem heap_setCells : ∀ (vs : List Value) (b o : Nat) (W : World) (k : Nat), k ≠ b → (W.setCells b o vs).heap[k]? = W.heap[k]?
  | [], _, _, _, _, _ => rfl
  | v :: r, b, o, W, k, hk => by
    rw [World.setCells, heap_setCells r b (o + 1) _ k hk]
    exact Below.heap_setCell _ ⟨b, o, none⟩ _ k hk
theorem below_sets {B : Nat} {a : World} : ∀ (vs : List Value) (b o : Nat) (w : World), B ≤ b → Below B a w → Below B a (w.setCells b o vs)
  | [], _, _, _, _, h => h
  | v :: r, b, o, w, hb, h => by
    rw [World.setCells]
    exact below_sets r b (o + 1) _ hb (h.setCell hb v)
end
end Go.Proofs.Ytopkhmbgdhpgeaa
