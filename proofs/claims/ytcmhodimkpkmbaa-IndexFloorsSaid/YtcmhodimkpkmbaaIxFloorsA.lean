/-
  What a deed can't do to a floor; two indices in two variables; the set of an object's slices, where there is none.
-/
import Derived.Test.YtcmhodimkpkmbaaIxAwake
namespace Go.Proofs.Ytcmhodimkpkmbaa
open Go.ChangeShapes Go.WideShapes Go.ChangeAt Go.RowKit
set_option maxRecDepth 100000
namespace Ix
theorem fl_upd {S : St} {k : Nat} {s : Sl} (h : (S k).fl ≤ s.fl) (j : Nat) : (S j).fl ≤ (upd S k s j).fl := by
  unfold upd
  split
  · rename_i e; rw [e]; exact h
  · exact Int.le_refl _
theorem fl_deed (S : St) (d : Deed) (j : Nat) : (S j).fl ≤ (deed S d j).fl := by
  unfold deed
  split
  · unfold pc
    split
    · refine fl_upd ?_ j
      unfold pc1
      split <;> exact Int.le_refl _
    · exact Int.le_refl _
  · split
    · unfold fgt
      split
      · refine fl_upd ?_ j
        unfold fgt1
        by_cases h1 : 0 < d.b.gen ∧ (S d.b.obj.toNat).fl ≤ d.b.gen
        · simp only [if_pos h1]
          split <;> exact h1.2
        · simp only [if_neg h1]
          split <;> exact Int.le_refl _
      · exact Int.le_refl _
    · unfold bnd
      split
      · refine fl_upd ?_ j
        unfold bnd1
        split
        · exact Int.le_refl _
        · split
          · exact Int.le_refl _
          · split <;> exact Int.le_refl _
      · exact Int.le_refl _
/-- a bind other than there was has no slices -/
def Fresh (s t : Sl) : Prop := t.b = true → (s.b = false ∨ s.bind.gen ≠ t.bind.gen) → t.sl = []
theorem fresh_refl (s : Sl) : Fresh s s := fun hb hq => by
  rcases hq with hq | hq
  · rw [hb] at hq; cases hq
  · exact absurd rfl hq
theorem fresh_upd {S : St} {k : Nat} {s : Sl} (h : Fresh (S k) s) (j : Nat) : Fresh (S j) (upd S k s j) := by
  unfold upd
  split
  · rename_i e; rw [e]; exact h
  · exact fresh_refl _
theorem fresh_deed (S : St) (d : Deed) (j : Nat) : Fresh (S j) (deed S d j) := by
  unfold deed
  split
  · unfold pc
    split
    · refine fresh_upd ?_ j
      unfold pc1
      split
      · rename_i h1
        intro _ hq
        rcases hq with hq | hq
        · rw [h1.1] at hq; cases hq
        · exact absurd rfl hq
      · exact fresh_refl _
    · exact fresh_refl _
  · split
    · unfold fgt
      split
      · refine fresh_upd ?_ j
        unfold fgt1
        by_cases h2 : (S d.b.obj.toNat).b = true ∧ (S d.b.obj.toNat).bind.gen ≤ d.b.gen
        · simp only [if_pos h2]
          exact fun _ _ => rfl
        · simp only [if_neg h2]
          by_cases h1 : 0 < d.b.gen ∧ (S d.b.obj.toNat).fl ≤ d.b.gen
          · simp only [if_pos h1]
            intro hb hq
            rcases hq with hq | hq
            · rw [show (S d.b.obj.toNat).b = true from hb] at hq; cases hq
            · exact absurd rfl hq
          · simp only [if_neg h1]
            exact fresh_refl _
      · exact fresh_refl _
    · unfold bnd
      split
      · refine fresh_upd ?_ j
        unfold bnd1
        split
        · exact fresh_refl _
        · split
          · exact fun _ _ => rfl
          · split
            · rename_i h1 h2 h3
              intro hb hq
              rcases hq with hq | hq
              · rw [show (S d.b.obj.toNat).b = true from hb] at hq; cases hq
              · exact absurd rfl hq
            · exact fresh_refl _
      · exact fresh_refl _
theorem see_of {S : St} {j : Nat} (h : j < 16) : see S (j : Int) = S j := by
  unfold see
  rw [if_pos (by unfold may; exact decide_eq_true (by omega))]
  rfl
end Ix
section
variable {R : (Nat → Prop) → World → List Value → Ix.St → Prop}
/-- the slices of an object as a set: what has none has a set without numbers -/
structure IxNone (R : (Nat → Prop) → World → List Value → Ix.St → Prop) : Prop where
  slices : ∀ {own W cs S} o, R own W cs S → Ix.Ok S → Calls Try.prog 8 #[.agg cs.toArray, .int .i64 o] W fun e W' => ∃ m, e = .returned m ∧ Below W.heap.size W W' ∧
    ∀ W2, Calls Try.prog 9 #[m] W2 fun e2 W3 => ∃ k : Int, e2 = .returned (.int .i64 k) ∧ ((Ix.see S o).sl = [] → k = 0) ∧ Below W2.heap.size W2 W3
/-- two indices, each in a variable -/
structure FSt (R : (Nat → Prop) → World → List Value → Ix.St → Prop) (B : World) (bx : Nat) (cs1 : List Value) (own1 : Nat → Prop) (S1 : Ix.St) (bz : Nat) (cs2 : List Value) (own2 : Nat → Prop) (S2 : Ix.St) (W : World) : Prop where
  box1 : IxBox W bx cs1
  r1 : R own1 W cs1 S1
  box2 : IxBox W bz cs2
  r2 : R own2 W cs2 S2
  below : Below B.heap.size B W
theorem FSt.on {sz : Nat} (K : IxPrg R sz) {B W W' : World} {bx bz : Nat} {cs1 cs2 : List Value} {own1 own2 : Nat → Prop} {S1 S2 : Ix.St} (h : FSt R B bx cs1 own1 S1 bz cs2 own2 S2 W) (hb : Below W.heap.size W W') : FSt R B bx cs1 own1 S1 bz cs2 own2 S2 W' :=
  ⟨h.box1.below hb, K.on h.r1 hb, h.box2.below hb, K.on h.r2 hb, h.below.trans (hb.mono h.below.size)⟩
/-- a bind in a variable of its own -/
def BdBox (W : World) (b : Nat) (x : Ix.Bd) : Prop := W.heap[b]? = some (.cells #[.int .i64 x.obj, .int .i64 x.gen, .string x.tag, .int .i64 x.len, .int .i64 x.tick] 24 (0, 0))
theorem BdBox.gen {W : World} {b : Nat} {x : Ix.Bd} (h : BdBox W b x) : W.cell? ⟨b, 1, none⟩ = some (.int .i64 x.gen) :=
  (cells_at (C := [.int .i64 x.obj, .int .i64 x.gen, .string x.tag, .int .i64 x.len, .int .i64 x.tick]) h 1).trans rfl
theorem BdBox.lt {W : World} {b : Nat} {x : Ix.Bd} (h : BdBox W b x) : b < W.heap.size := (Array.getElem?_eq_some_iff.1 h).1
theorem BdBox.on {W W' : World} {b : Nat} {x : Ix.Bd} (h : BdBox W b x) (hb : Below W.heap.size W W') : BdBox W' b x := (hb.block b h.lt).trans h
theorem BdBox.new (W : World) (x : Ix.Bd) : BdBox (W.alloc (.cells #[.int .i64 x.obj, .int .i64 x.gen, .string x.tag, .int .i64 x.len, .int .i64 x.tick] 24)) W.heap.size x := heap_alloc_new W _
end
end Go.Proofs.Ytcmhodimkpkmbaa
