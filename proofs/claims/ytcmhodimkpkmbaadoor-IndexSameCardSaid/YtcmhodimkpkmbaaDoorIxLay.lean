/-
  The document's index as it lies: sixteen slots of twelve cells in one block; its slices in rows of their own.
-/
import Derived.Test.YtcmhodimkpkmbaaDoorChecked
import Derived.Test.YtcmhodimkpkmbaaDoorIxMath
import Derived.Test.YtcmhodimkpkmbaaDoorVals
import Derived.Test.YtcmhodimkpkmbaaDoorAppendCells
import Derived.Deep.MidRow
import Derived.Lib.Hide
import Derived.IntWalk
import Derived.Outline
namespace Go.Proofs.YtcmhodimkpkmbaaDoor
open Go.ChangeShapes Go.WideShapes Go.ChangeAt Go.RowKit
set_option maxRecDepth 100000

/-- rows of m cells each, one behind another -/
def rows (f : Nat → List Value) (n : Nat) : List Value := (List.range n).flatMap f
theorem rows_succ (f : Nat → List Value) (n : Nat) : rows f (n + 1) = rows f n ++ f n := by simp [rows, List.range_succ]
theorem rows_length {f : Nat → List Value} {m : Nat} (hf : ∀ k, (f k).length = m) : ∀ n, (rows f n).length = n * m
  | 0 => by simp [rows]
  | n + 1 => by rw [rows_succ, List.length_append, rows_length hf n, hf, Nat.succ_mul]
theorem rows_ext {f g : Nat → List Value} : ∀ n, (∀ i, i < n → g i = f i) → rows g n = rows f n
  | 0, _ => rfl
  | n + 1, h => by rw [rows_succ, rows_succ, rows_ext n (fun i hi => h i (by omega)), h n (by omega)]
theorem rows_parts {f : Nat → List Value} {m : Nat} (hf : ∀ k, (f k).length = m) {k : Nat} : ∀ n, k < n → ∃ r, rows f n = rows f k ++ f k ++ r ∧ ∀ g : Nat → List Value, (∀ i, i ≠ k → g i = f i) → rows g n = rows f k ++ g k ++ r
  | 0, h => absurd h (by omega)
  | n + 1, h => by
    by_cases e : k = n
    · subst e
      refine ⟨[], by rw [rows_succ, List.append_nil], fun g hg => ?_⟩
      rw [rows_succ, List.append_nil]
      rw [rows_ext k (fun i hi => hg i (by omega))]
    · obtain ⟨r, h1, h2⟩ := rows_parts hf n (by omega : k < n)
      refine ⟨r ++ f n, by rw [rows_succ, h1, List.append_assoc], fun g hg => ?_⟩
      rw [rows_succ, h2 g hg, hg n (by omega), List.append_assoc]
theorem rows_get {f : Nat → List Value} {m : Nat} (hf : ∀ k, (f k).length = m) {n k : Nat} (hk : k < n) {j : Nat} (hj : j < m) : (rows f n)[k * m + j]? = (f k)[j]? := by
  obtain ⟨r, h1, -⟩ := rows_parts hf n hk
  have hl := rows_length hf k
  rw [h1, List.append_assoc, List.getElem?_append_right (by omega), hl, Nat.add_sub_cancel_left, List.getElem?_append_left (by rw [hf]; exact hj)]
theorem rows_set {f : Nat → List Value} {m : Nat} (hf : ∀ k, (f k).length = m) {n k : Nat} (hk : k < n) {j : Nat} (hj : j < m) (v : Value) (g : Nat → List Value) (hg : ∀ i, i ≠ k → g i = f i) (hgk : g k = (f k).set j v) : (rows f n).set (k * m + j) v = rows g n := by
  obtain ⟨r, h1, h2⟩ := rows_parts hf n hk
  have hl := rows_length hf k
  rw [h1, h2 g hg, hgk, List.append_assoc, List.append_assoc, List.set_append_right _ _ (by omega), hl, Nat.add_sub_cancel_left, List.set_append_left _ _ (by rw [hf]; exact hj)]
/-- a slice's cells, and those of a list -/
def scC (z : Ix.Sc) : List Value := [.int .i64 z.1, .int .i64 z.2.1, .int .i64 z.2.2]
def scV (l : List Ix.Sc) : List Value := l.flatMap scC
theorem scV_cons (z : Ix.Sc) (l : List Ix.Sc) : scV (z :: l) = .int .i64 z.1 :: .int .i64 z.2.1 :: .int .i64 z.2.2 :: scV l := rfl
theorem scV_append (l m : List Ix.Sc) : scV l ++ scV m = scV (l ++ m) := by simp [scV]
theorem scV_length (l : List Ix.Sc) : (scV l).length = l.length * 3 := by
  induction l with
  | nil => rfl
  | cons x l ih => rw [scV_cons]; simp only [List.length_cons, ih]; omega
theorem scV_one (l : List Ix.Sc) : ∀ u ∈ scV l, u.oneCell' = true := by
  intro u hu
  obtain ⟨x, _, hx⟩ := List.mem_flatMap.1 hu
  simp only [scC, List.mem_cons, List.not_mem_nil, or_false] at hx
  rcases hx with rfl | rfl | rfl <;> rfl
theorem scV_get : ∀ (l : List Ix.Sc) (k : Nat) (h : k < l.length), (scV l)[k * 3]? = some (.int .i64 l[k].1) ∧ (scV l)[k * 3 + 1]? = some (.int .i64 l[k].2.1) ∧ (scV l)[k * 3 + 2]? = some (.int .i64 l[k].2.2)
  | [], k, h => absurd h (by simp)
  | x :: l, 0, _ => ⟨rfl, rfl, rfl⟩
  | x :: l, k + 1, h => by
    have := scV_get l k (by simpa using h)
    rw [scV_cons]
    have e : (k + 1) * 3 = k * 3 + 1 + 1 + 1 := by omega
    rw [e]
    simpa using this
/-- a slot's cells, its slices by their header -/
def slotC (s : Ix.Sl) (v : Value) : List Value := [.bool s.b, .int .i64 s.bind.obj, .int .i64 s.bind.gen, .string s.bind.tag, .int .i64 s.bind.len, .int .i64 s.bind.tick, .int .i64 s.at_.1, .int .i64 s.at_.2, v, .int .i64 s.fl, .int .i64 s.tomb.1, .int .i64 s.tomb.2]
theorem slotC_length (s : Ix.Sl) (v : Value) : (slotC s v).length = 12 := rfl
def ixC (S : Ix.St) (H : Nat → Value) : List Value := rows (fun k => slotC (S k) (H k)) 16
theorem ixC_length (S : Ix.St) (H : Nat → Value) : (ixC S H).length = 192 := rows_length (m := 12) (fun _ => rfl) 16
def updH (H : Nat → Value) (k : Nat) (v : Value) : Nat → Value := fun j => if j = k then v else H j
theorem slot_upd (S : Ix.St) (H : Nat → Value) (k : Nat) (s : Ix.Sl) (v : Value) : (fun j => slotC (Ix.upd S k s j) (updH H k v j)) k = slotC s v ∧ ∀ i, i ≠ k → (fun j => slotC (Ix.upd S k s j) (updH H k v j)) i = (fun j => slotC (S j) (H j)) i := by
  refine ⟨by simp [Ix.upd, updH], fun i hi => by simp [Ix.upd, updH, hi]⟩
/-- slices that lie below, apart from a block -/
def SRow (W : World) (rb : Nat) (v : Value) (L : List Ix.Sc) : Prop :=
  ∃ A c, v = .slice A L.length c ∧ L.length ≤ c ∧ (0 < L.length → ∃ g off cur, A = some ⟨g, off, none⟩ ∧ W.heap[g]? = some (.cells cur 49 (0, 0)) ∧ g ≠ rb ∧ ∀ j (hj : j < (scV L).length), W.cell? ⟨g, off + j, none⟩ = some (scV L)[j])
theorem SRow.nil (W : World) (rb : Nat) : SRow W rb (.slice none 0 0) [] := ⟨none, 0, rfl, Nat.le_refl _, fun h => absurd h (by simp)⟩
theorem SRow.frame {W W' : World} {rb : Nat} {v : Value} {L : List Ix.Sc} (h : SRow W rb v L) (_ : W.heap.size ≤ W'.heap.size) (hb : ∀ i, i < W.heap.size → i ≠ rb → W'.heap[i]? = W.heap[i]?) : SRow W' rb v L := by
  obtain ⟨A, c, h1, h2, h3⟩ := h
  refine ⟨A, c, h1, h2, fun h0 => ?_⟩
  obtain ⟨g, off, cur, h4, h5, h6, h7⟩ := h3 h0
  have hlt := (Array.getElem?_eq_some_iff.1 h5).1
  exact ⟨g, off, cur, h4, (hb g hlt h6).trans h5, h6, fun j hj => (World.cell?_of_block (hb g hlt h6)).trans (h7 j hj)⟩
theorem SRow.other {W W' : World} {rb b : Nat} {v : Value} {L : List Ix.Sc} {C : Array Value} {T : TypeId} {fz : Nat × Nat} (h : SRow W rb v L) (ho : W.heap[b]? = some (.cells C T fz)) (hT : T ≠ 49) (hb : ∀ i, i ≠ b → W'.heap[i]? = W.heap[i]?) : SRow W' rb v L := by
  obtain ⟨A, c, h1, h2, h3⟩ := h
  refine ⟨A, c, h1, h2, fun h0 => ?_⟩
  obtain ⟨g, off, cur, h4, h5, h6, h7⟩ := h3 h0
  have hne : g ≠ b := fun e => by
    subst e
    rw [h5] at ho
    injection ho with ho
    injection ho with _ ho
    exact hT ho.symm
  exact ⟨g, off, cur, h4, (hb g hne).trans h5, h6, fun j hj => (World.cell?_of_block (hb g hne)).trans (h7 j hj)⟩
/-- the document's index -/
def RIx (W : World) (rb : Nat) (S : Ix.St) : Prop := ∃ H, W.heap[rb]? = some (.cells (ixC S H).toArray 47 (0, 0)) ∧ ∀ k, k < 16 → SRow W rb (H k) (S k).sl
theorem RIx.lt {W : World} {rb : Nat} {S : Ix.St} (h : RIx W rb S) : rb < W.heap.size := by
  obtain ⟨H, h1, -⟩ := h
  exact (Array.getElem?_eq_some_iff.1 h1).1
theorem RIx.frame {W W' : World} {rb : Nat} {S : Ix.St} (h : RIx W rb S) (hs : W.heap.size ≤ W'.heap.size) (hb : ∀ i, i < W.heap.size → W'.heap[i]? = W.heap[i]?) : RIx W' rb S := by
  have hlt := h.lt
  obtain ⟨H, h1, h2⟩ := h
  exact ⟨H, (hb rb hlt).trans h1, fun k hk => (h2 k hk).frame hs fun i hi _ => hb i hi⟩
theorem RIx.other {W W' : World} {rb b : Nat} {S : Ix.St} {C : Array Value} {T : TypeId} {fz : Nat × Nat} (h : RIx W rb S) (hne : rb ≠ b) (ho : W.heap[b]? = some (.cells C T fz)) (hT : T ≠ 49) (hb : ∀ i, i ≠ b → W'.heap[i]? = W.heap[i]?) : RIx W' rb S := by
  obtain ⟨H, h1, h2⟩ := h
  exact ⟨H, (hb rb hne).trans h1, fun k hk => (h2 k hk).other ho hT hb⟩
theorem RIx.below {W W' : World} {rb : Nat} {S : Ix.St} (h : RIx W rb S) (hb : Below W.heap.size W W') : RIx W' rb S := h.frame hb.size hb.block
theorem ixC_get (S : Ix.St) (H : Nat → Value) {k : Nat} (hk : k < 16) {j : Nat} (hj : j < 12) : (ixC S H)[k * 12 + j]? = (slotC (S k) (H k))[j]? := rows_get (m := 12) (fun _ => rfl) hk hj
/-- a block of cells: what lies there -/
theorem cells_at {W : World} {b : Nat} {C : List Value} {T : TypeId} (h : W.heap[b]? = some (.cells C.toArray T (0, 0))) (j : Nat) : W.cell? ⟨b, j, none⟩ = C[j]? := by
  rw [cell_of_row W b j C.toArray T (0, 0) h]
  simp
theorem cells_frozen {W : World} {b : Nat} {C : List Value} {T : TypeId} (h : W.heap[b]? = some (.cells C.toArray T (0, 0))) (j : Nat) : W.frozen? ⟨b, j, none⟩ = false := by simp [World.frozen?, h]
theorem cells_set {W : World} {b : Nat} {C : List Value} {T : TypeId} (h : W.heap[b]? = some (.cells C.toArray T (0, 0))) (j : Nat) (v : Value) : (W.setCell ⟨b, j, none⟩ v).heap[b]? = some (.cells (C.set j v).toArray T (0, 0)) := by
  simp [World.setCell, Array.getElem?_modify, h]
/-- a slot, whole -/
theorem slot_range {W : World} {rb : Nat} {S : Ix.St} {H : Nat → Value} (h : W.heap[rb]? = some (.cells (ixC S H).toArray 47 (0, 0))) {k : Nat} (hk : k < 16) : W.rangeAt rb (k * 12) (slotC (S k) (H k)) := by
  intro j v hj
  rw [cells_at h, ixC_get S H hk (by
    have := (List.getElem?_eq_some_iff.1 hj).1
    rwa [slotC_length] at this)]
  exact hj
theorem setCells_mid (b : Nat) (T : TypeId) : ∀ (vs old p r : List Value) (W : World), vs.length = old.length → W.heap[b]? = some (.cells (p ++ old ++ r).toArray T (0, 0)) → (W.setCells b p.length vs).heap[b]? = some (.cells (p ++ vs ++ r).toArray T (0, 0))
  | [], [], p, r, W, _, h => by simpa [World.setCells] using h
  | [], _ :: _, p, r, W, hl, h => by simp at hl
  | v :: vs, [], p, r, W, hl, h => by simp at hl
  | v :: vs, x :: old, p, r, W, hl, h => by
    rw [World.setCells]
    have h1 : (W.setCell ⟨b, p.length, none⟩ v).heap[b]? = some (.cells ((p ++ [v]) ++ old ++ r).toArray T (0, 0)) := by
      rw [cells_set h]
      congr 2
      simp
    have h2 := setCells_mid b T vs old (p ++ [v]) r _ (by simpa using hl) h1
    rw [List.length_append, List.length_singleton] at h2
    rw [h2]
    simp
/-- a slot is another one -/
theorem slot_put {W : World} {rb : Nat} {S : Ix.St} {H : Nat → Value} (h : W.heap[rb]? = some (.cells (ixC S H).toArray 47 (0, 0))) {k : Nat} (hk : k < 16) (s : Ix.Sl) (v : Value) :
    (W.setCells rb (k * 12) (slotC s v)).heap[rb]? = some (.cells (ixC (Ix.upd S k s) (updH H k v)).toArray 47 (0, 0)) := by
  obtain ⟨r, h1, h2⟩ := rows_parts (m := 12) (f := fun j => slotC (S j) (H j)) (fun _ => rfl) 16 hk
  obtain ⟨e1, e2⟩ := slot_upd S H k s v
  have h3 := h2 _ e2
  have hl : (rows (fun j => slotC (S j) (H j)) k).length = k * 12 := rows_length (m := 12) (fun _ => rfl) k
  unfold ixC at h ⊢
  rw [h1] at h
  dsimp only at e1
  rw [h3, e1, ← hl]
  exact setCells_mid rb _ (slotC s v) (slotC (S k) (H k)) _ _ W rfl h
/-- one cell of a slot is another one -/
theorem slot_set {W : World} {rb : Nat} {S : Ix.St} {H : Nat → Value} (h : W.heap[rb]? = some (.cells (ixC S H).toArray 47 (0, 0))) {k : Nat} (hk : k < 16) {j : Nat} (hj : j < 12) (x : Value) (s : Ix.Sl) (v : Value) (hs : slotC s v = (slotC (S k) (H k)).set j x) :
    (W.setCell ⟨rb, k * 12 + j, none⟩ x).heap[rb]? = some (.cells (ixC (Ix.upd S k s) (updH H k v)).toArray 47 (0, 0)) := by
  obtain ⟨e1, e2⟩ := slot_upd S H k s v
  rw [cells_set h]
  unfold ixC
  rw [rows_set (m := 12) (fun _ => rfl) hk hj x _ e2 (e1.trans hs)]
/-- the document's index, a slot of which is another one -/
theorem RIx.put {W W' : World} {rb : Nat} {S : Ix.St} {H : Nat → Value} (hr : ∀ k, k < 16 → SRow W rb (H k) (S k).sl) (hs : W.heap.size ≤ W'.heap.size) (hb : ∀ i, i < W.heap.size → i ≠ rb → W'.heap[i]? = W.heap[i]?)
    {k : Nat} (s : Ix.Sl) (v : Value) (h : W'.heap[rb]? = some (.cells (ixC (Ix.upd S k s) (updH H k v)).toArray 47 (0, 0))) (hv : SRow W' rb v s.sl) : RIx W' rb (Ix.upd S k s) := by
  refine ⟨_, h, fun j hj => ?_⟩
  by_cases e : j = k
  · subst e
    rw [Ix.upd_same, show updH H j v j = v by simp [updH]]
    exact hv
  · rw [Ix.upd_far _ _ _ _ e, show updH H k v j = H j by simp [updH, e]]
    exact (hr j hj).frame hs hb
end Go.Proofs.YtcmhodimkpkmbaaDoor
