/-
  Contract of the method (*reader).number: it keeps what was wrong with any number.
-/
import Derived.Test.YtlilkcbhlinolaaDoorCrangeRight
import Derived.Test.YtlilkcbhlinolaaDoorTextStr
namespace Go.Proofs.YtlilkcbhlinolaaDoor
open Go.ChangeShapes Go.WideShapes Go.ChangeAt Go.RowKit

/-- block g has two cells, which may be written -/
def Rd (w : World) (g : Nat) (p q : Bool) : Prop :=
  g < w.heap.size ∧ w.cell? ⟨g, 0, none⟩ = some (.bool p) ∧ w.cell? ⟨g, 1, none⟩ = some (.bool q) ∧ w.frozen? ⟨g, 0, none⟩ = false ∧ w.frozen? ⟨g, 1, none⟩ = false
/-- nothing but block g was written -/
def Wrote (g : Nat) (w w' : World) : Prop :=
  w'.os = w.os ∧ w'.tape = w.tape ∧ w'.output = w.output ∧ w'.heap.size = w.heap.size ∧ ∀ k, k ≠ g → w'.heap[k]? = w.heap[k]?
section
variable {w w' : World} {g n : Nat} {p q : Bool} {a b c d : Value}
theorem Rd.new (w : World) (p q : Bool) (t : TypeId) : Rd (w.alloc (.cells #[.bool p, .bool q] t)) w.heap.size p q := by
  refine ⟨by simp, ?_, ?_, ?_, ?_⟩ <;> simp
theorem Rd.below (h : Rd w g p q) (hb : Below w.heap.size w w') : Rd w' g p q := by
  obtain ⟨h1, h2, h3, h4, h5⟩ := h
  exact ⟨Nat.lt_of_lt_of_le h1 hb.size, (hb.cell (p := ⟨g, 0, none⟩) h1).trans h2, (hb.cell (p := ⟨g, 1, none⟩) h1).trans h3, (hb.frozen (p := ⟨g, 0, none⟩) h1).trans h4, (hb.frozen (p := ⟨g, 1, none⟩) h1).trans h5⟩
theorem Rd.set (h : Rd w g p q) (hn : n ≠ g) (i : Nat) (x : Value) : Rd (w.setCell ⟨n, i, none⟩ x) g p q := by
  obtain ⟨h1, h2, h3, h4, h5⟩ := h
  refine ⟨by rw [World.size_setCell]; exact h1, ?_, ?_, by rw [World.frozen?_setCell]; exact h4, by rw [World.frozen?_setCell]; exact h5⟩
  · rw [World.cell?_setCell_other _ _ _ _ (fun e => hn (by injection e))]; exact h2
  · rw [World.cell?_setCell_other _ _ _ _ (fun e => hn (by injection e))]; exact h3
theorem Wrote.below (h : Wrote g w w') : Below g w w' :=
  ⟨h.1, h.2.1, h.2.2.1, by rw [h.2.2.2.1]; exact Nat.le_refl _, fun k hk => h.2.2.2.2 k (by omega)⟩
theorem Wrote.cell (h : Wrote g w w') {x : Addr} (hx : x.block ≠ g) : w'.cell? x = w.cell? x := by
  unfold World.cell?
  rw [h.2.2.2.2 _ hx]
theorem Wrote.frozen (h : Wrote g w w') {x : Addr} (hx : x.block ≠ g) : w'.frozen? x = w.frozen? x := by
  unfold World.frozen?
  rw [h.2.2.2.2 _ hx]
theorem Four.wrote (h : Four w n a b c d) (hw : Wrote g w w') (hn : n ≠ g) : Four w' n a b c d := by
  obtain ⟨h1, h2, h3, h4, h5, h6, h7, h8, h9⟩ := h
  exact ⟨by rw [hw.2.2.2.1]; exact h1, (hw.cell hn).trans h2, (hw.cell hn).trans h3, (hw.cell hn).trans h4, (hw.cell hn).trans h5, (hw.frozen hn).trans h6, (hw.frozen hn).trans h7, (hw.frozen hn).trans h8, (hw.frozen hn).trans h9⟩
theorem Wrote.two (w : World) (g : Nat) (x y : Value) : Wrote g w ((w.setCell ⟨g, 0, none⟩ x).setCell ⟨g, 1, none⟩ y) := by
  exact ⟨rfl, rfl, rfl, by simp, fun k hk => (Below.heap_setCell _ _ _ k hk).trans (Below.heap_setCell _ _ _ k hk)⟩
theorem Rd.two (h : Rd w g p q) (x y : Bool) : Rd ((w.setCell ⟨g, 0, none⟩ (.bool x)).setCell ⟨g, 1, none⟩ (.bool y)) g x y := by
  obtain ⟨h1, h2, h3, h4, h5⟩ := h
  refine ⟨by simpa using h1, ?_, ?_, by simpa using h4, by simpa using h5⟩
  · rw [World.cell?_setCell_other _ _ _ _ (fun e => by injection e with e1 e2; omega), World.cell?_setCell_same' _ _ _ (by rw [h2]; rfl)]
  · rw [World.cell?_setCell_same' _ _ _ (by rw [World.cell?_setCell_other _ _ _ _ (fun e => by injection e with e1 e2; omega), h3]; rfl)]
end

theorem number_any (g : Nat) (s : ByteArray) (n e : Int) (p q : Bool) (w : World) (hR : Rd w g p q)
    (co : ∀ W, Calls Tryd.prog 68 #[.string s] W fun x w' => x = .returned (.tuple #[.int .i64 n, .int .i64 e]) ∧ W = w') :
    Calls Tryd.prog 60 #[.pointer (some ⟨g, 0, none⟩), .string s] w fun x w' => x = .returned (.int .i64 n) ∧ Rd w' g (p || e == 3) (q || e == 9) ∧ Wrote g w w' := by
  have HR := Lib.hid hR
  obtain ⟨h1, h2, h3, h4, h5⟩ := hR
  cases p <;> cases q
  all_goals
    go_enter Tryd.func60, Tryd.ntmps60
    go_wp2_with (go_at_call 68; refine (co _).mono ?_; rintro e w1 ⟨rfl, rfl⟩)
    go_ret
    exact ⟨rfl, by simpa using HR.out.two _ _, Wrote.two _ _ _ _⟩
end Go.Proofs.YtlilkcbhlinolaaDoor
