/-
  Like: what stands while the objects are held against each other.
-/
import Derived.Test.YtcmhodimkpkmbaaDoorIxPlaces
import Derived.Test.YtcmhodimkpkmbaaDoorIxSameI
import Derived.Test.YtcmhodimkpkmbaaDoorBitList
import Derived.Test.YtcmhodimkpkmbaaDoorRefIntsD
import Derived.Deep.DeepCutAuto
import Derived.Deep.CutRange
import Derived.BigQuiet
import Derived.Deep.QuietTactic
namespace Go.Proofs.YtcmhodimkpkmbaaDoor
open Go.ChangeShapes Go.WideShapes Go.ChangeAt Go.RowKit
set_option maxRecDepth 100000

theorem slot12_size : (Tryd.prog.info? 44).map (·.size) = some 12 := by kernel_rfl
theorem slotC_one (s : Ix.Sl) {v : Value} (hv : v.oneCell' = true) : ∀ u ∈ slotC s v, u.oneCell' = true := by
  intro u hu
  simp only [slotC, List.mem_cons, List.not_mem_nil, or_false] at hu
  rcases hu with rfl | rfl | rfl | rfl | rfl | rfl | rfl | rfl | rfl | rfl | rfl | rfl <;> first | rfl | exact hv
theorem SRow.one {W : World} {rb : Nat} {v : Value} {L : List Ix.Sc} (h : SRow W rb v L) : v.oneCell' = true := by
  obtain ⟨A, c, rfl, _⟩ := h
  rfl
/-- the document's slot, in a variable -/
def ScBox (W : World) (b : Nat) (s : Ix.Sl) (v : Value) : Prop := W.heap[b]? = some (.cells (slotC s v).toArray 44 (0, 0))
theorem ScBox.lt {W : World} {b : Nat} {s : Ix.Sl} {v : Value} (h : ScBox W b s v) : b < W.heap.size := (Array.getElem?_eq_some_iff.1 h).1
theorem ScBox.cells {W : World} {b : Nat} {s : Ix.Sl} {v : Value} (h : ScBox W b s v) :
    W.cell? ⟨b, 0, none⟩ = some (.bool s.b) ∧ W.cell? ⟨b, 1, none⟩ = some (.int .i64 s.bind.obj) ∧ W.cell? ⟨b, 2, none⟩ = some (.int .i64 s.bind.gen) ∧ W.cell? ⟨b, 3, none⟩ = some (.string s.bind.tag) ∧ W.cell? ⟨b, 4, none⟩ = some (.int .i64 s.bind.len) ∧ W.cell? ⟨b, 5, none⟩ = some (.int .i64 s.bind.tick) ∧
      W.cell? ⟨b, 6, none⟩ = some (.int .i64 s.at_.1) ∧ W.cell? ⟨b, 7, none⟩ = some (.int .i64 s.at_.2) ∧ W.cell? ⟨b, 8, none⟩ = some v ∧ W.cell? ⟨b, 9, none⟩ = some (.int .i64 s.fl) ∧ W.cell? ⟨b, 10, none⟩ = some (.int .i64 s.tomb.1) ∧ W.cell? ⟨b, 11, none⟩ = some (.int .i64 s.tomb.2) := by
  have hc := fun j => cells_at h j
  exact ⟨hc 0, hc 1, hc 2, hc 3, hc 4, hc 5, hc 6, hc 7, hc 8, hc 9, hc 10, hc 11⟩
/-- a variable of another type that an append of numbers leaves alone -/
theorem var_kept {W W' : World} {b base k : Nat} {v : Value} {xs : List Value} {C : Array Value} {T : TypeId} (h : W.heap[b]? = some (.cells C T (0, 0))) (hT : T ≠ 3) (hg : W.grownBy W' v.ownBlock) (ho : W.ownsRow base 3 1 v k xs) : W'.heap[b]? = some (.cells C T (0, 0)) := by
  refine (hg.block b (lt_of_at h) fun e => ?_).trans h
  rcases ho.2 with ⟨rfl, _⟩ | ⟨g, cap, cur, rfl, _, hgb, _⟩
  · simp [Value.ownBlock] at e
  · obtain rfl : b = g := by simpa [Value.ownBlock] using e
    rw [hgb] at h
    injection h with h
    injection h with _ h
    exact hT h.symm
/-- the objects with a bind, below an object -/
def objsI (T : Ix.St) (o : Int) : List Int := objs T (min o.toNat 16)
theorem objsI_yes {T : Ix.St} {o : Int} (h : (Ix.see T o).b = true) : objsI T (o + 1) = objsI T o ++ [o] := by
  unfold Ix.see at h
  cases hm : Ix.may o
  · rw [hm] at h
    simp [Ix.sl0] at h
  · rw [hm, if_pos rfl] at h
    have ho : 0 ≤ o ∧ o ≤ 15 := by unfold Ix.may at hm; exact of_decide_eq_true hm
    unfold objsI
    rw [show min (o + 1).toNat 16 = o.toNat + 1 by omega, show min o.toNat 16 = o.toNat by omega, objs_yes h, show ((o.toNat : Nat) : Int) = o by omega]
theorem objsI_no {T : Ix.St} {o : Int} (hlo : -1 ≤ o) (h : (Ix.see T o).b = false) : objsI T (o + 1) = objsI T o := by
  unfold Ix.see at h
  unfold objsI
  cases hm : Ix.may o
  · have ho : ¬ (0 ≤ o ∧ o ≤ 15) := by unfold Ix.may at hm; exact of_decide_eq_false hm
    rw [show min (o + 1).toNat 16 = min o.toNat 16 by omega]
  · rw [hm, if_pos rfl] at h
    have ho : 0 ≤ o ∧ o ≤ 15 := by unfold Ix.may at hm; exact of_decide_eq_true hm
    rw [show min (o + 1).toNat 16 = o.toNat + 1 by omega, show min o.toNat 16 = o.toNat by omega, objs_no h]
theorem objsI_len (T : Ix.St) (o : Int) : (objsI T o).length ≤ 16 := Nat.le_trans (objs_len _ _) (by omega)
/-- where Like stands at an object -/
structure Lkw (w wr : World) (S T : Ix.St) (cs : List Value) (o : Int) (m : Nat) (v : Value) : Prop where
  same : ∀ j : Nat, j < 16 → (j : Int) < o → S j = T j
  len : m = (objsI T o).length
  row : wr.ownsRow w.heap.size 3 1 v m (nums .i64 (objsI T o))
  box : IxBox wr w.heap.size cs
  below : Below w.heap.size w wr
theorem fail_diff {S T : Ix.St} (hS : Ix.Ok S) (hT : Ix.Ok T) {o : Int} (h : Ix.see S o ≠ Ix.see T o) : sameI S T = false := by
  cases hq : sameI S T
  · rfl
  · exfalso
    have h1 := (sameI_iff hS hT).1 hq
    apply h
    unfold Ix.see
    cases hm : Ix.may o
    · rfl
    · have ho : 0 ≤ o ∧ o ≤ 15 := by unfold Ix.may at hm; exact of_decide_eq_true hm
      rw [if_pos rfl, if_pos rfl]
      exact h1 _ (by omega)
theorem Ix.see_of9 {S : Ix.St} {j : Nat} (h : j < 16) : Ix.see S (j : Int) = S j := by
  unfold Ix.see
  rw [if_pos (by unfold Ix.may; exact decide_eq_true (by omega))]
  rfl
/-- an object more is the same -/
theorem same_next {S T : Ix.St} {o : Int} (h : ∀ j : Nat, j < 16 → (j : Int) < o → S j = T j) (he : Ix.see S o = Ix.see T o) : ∀ j : Nat, j < 16 → (j : Int) < o + 1 → S j = T j := fun j hj hlt => by
  by_cases e : (j : Int) = o
  · rw [← e, Ix.see_of9 hj, Ix.see_of9 hj] at he
    exact he
  · exact h j hj (by omega)
/-- where the inner loop of Like stands -/
structure Inw (wP wr : World) (psl sl : List Ix.Sc) (k : Nat) (v : Value) : Prop where
  row : wr.ownsRow wP.heap.size 3 1 v k (nums .i64 ((sl.take k).map (·.1)))
  same : ∀ z ∈ sl.take k, Ix.look psl z.1 = some z.2
  below : Below wP.heap.size wP wr
theorem slice_size : (Tryd.prog.info? 49).map (·.size) = some 3 := by kernel_rfl
theorem cells3 {W : World} {p : Nat} {T : TypeId} {x0 x1 x2 : Value} (h : W.heap[p]? = some (.cells #[x0, x1, x2] T (0, 0))) : W.cell? ⟨p, 0, none⟩ = some x0 ∧ W.cell? ⟨p, 1, none⟩ = some x1 ∧ W.cell? ⟨p, 2, none⟩ = some x2 := by
  have hc := fun j => cells_at (C := [x0, x1, x2]) h j
  exact ⟨hc 0, hc 1, hc 2⟩
end Go.Proofs.YtcmhodimkpkmbaaDoor
