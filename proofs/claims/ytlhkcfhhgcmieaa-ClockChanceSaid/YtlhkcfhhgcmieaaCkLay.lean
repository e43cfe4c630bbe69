/-
  How a ring lies: sixteen places of two cells each, and its end, in one block; a row of places.
-/
import Derived.Test.YtlhkcfhhgcmieaaCkMath
import Derived.Test.YtlhkcfhhgcmieaaVals
import Derived.Test.YtlhkcfhhgcmieaaAppendCells
import Derived.Deep.MidRow
import Derived.Lib.Hide
import Derived.IntWalk
namespace Go.Proofs.Ytlhkcfhhgcmieaa
open Go.ChangeShapes Go.WideShapes Go.ChangeAt Go.RowKit
set_option maxRecDepth 100000

def sitC (p : Ck.Sit) : List Value := [.int .i64 p.1, .bool p.2]
def sitV (l : List Ck.Sit) : List Value := l.flatMap sitC
theorem sitV_cons (p : Ck.Sit) (l : List Ck.Sit) : sitV (p :: l) = .int .i64 p.1 :: .bool p.2 :: sitV l := rfl
theorem sitV_append (l m : List Ck.Sit) : sitV l ++ sitV m = sitV (l ++ m) := by simp [sitV]
theorem sitV_one1 (p : Ck.Sit) : sitV [p] = sitC p := by simp [sitV]
theorem sitV_length (l : List Ck.Sit) : (sitV l).length = l.length * 2 := by
  induction l with
  | nil => rfl
  | cons x l ih => rw [sitV_cons]; simp only [List.length_cons, ih]; omega
theorem sitC_cell (p : Ck.Sit) : ∀ u ∈ sitC p, u.oneCell' = true := by
  intro u hu
  simp only [sitC, List.mem_cons, List.not_mem_nil, or_false] at hu
  rcases hu with rfl | rfl <;> rfl
theorem sitV_cell (l : List Ck.Sit) : ∀ u ∈ sitV l, u.oneCell' = true := by
  intro u hu
  obtain ⟨x, _, hx⟩ := List.mem_flatMap.1 hu
  exact sitC_cell x u hx
theorem sitV_get : ∀ (l : List Ck.Sit) (k : Nat) (h : k < l.length), (sitV l)[k * 2]? = some (.int .i64 l[k].1) ∧ (sitV l)[k * 2 + 1]? = some (.bool l[k].2)
  | [], k, h => absurd h (by simp)
  | x :: l, 0, _ => ⟨rfl, rfl⟩
  | x :: l, k + 1, h => by
    have := sitV_get l k (by simpa using h)
    rw [sitV_cons]
    have e : (k + 1) * 2 = k * 2 + 1 + 1 := by omega
    rw [e]
    simpa using this
theorem sitV_take (l : List Ck.Sit) (k : Nat) : (sitV l).take (k * 2) = sitV (l.take k) := by
  rcases Nat.lt_or_ge k l.length with h | h
  · have e : l = l.take k ++ l.drop k := (List.take_append_drop k l).symm
    have hl : (sitV (l.take k)).length = k * 2 := by rw [sitV_length, List.length_take]; omega
    rw [show (sitV l) = sitV (l.take k) ++ sitV (l.drop k) by rw [sitV_append, ← e], ← hl, List.take_left]
  · rw [List.take_of_length_le (by rw [sitV_length]; omega), List.take_of_length_le h]
theorem sitV_drop (l : List Ck.Sit) (k : Nat) : (sitV l).drop (k * 2) = sitV (l.drop k) := by
  rcases Nat.lt_or_ge k l.length with h | h
  · have e : l = l.take k ++ l.drop k := (List.take_append_drop k l).symm
    have hl : (sitV (l.take k)).length = k * 2 := by rw [sitV_length, List.length_take]; omega
    rw [show (sitV l) = sitV (l.take k) ++ sitV (l.drop k) by rw [sitV_append, ← e], ← hl, List.drop_left]
  · rw [List.drop_eq_nil_of_le (by rw [sitV_length]; omega), List.drop_eq_nil_of_le h]
    rfl
theorem sitV_part (l : List Ck.Sit) (k : Nat) (h : k < l.length) (p : Ck.Sit) : sitV l = sitV (l.take k) ++ sitC l[k] ++ sitV (l.drop (k + 1)) ∧ sitV (l.set k p) = sitV (l.take k) ++ sitC p ++ sitV (l.drop (k + 1)) := by
  rw [← sitV_one1, ← sitV_one1, sitV_append, sitV_append, sitV_append, sitV_append, List.set_eq_take_append_cons_drop, if_pos h]
  refine ⟨congrArg sitV ?_, congrArg sitV ?_⟩
  · simp
  · simp
theorem sitV_setB (l : List Ck.Sit) (k : Nat) (h : k < l.length) (b : Bool) : (sitV l).set (k * 2 + 1) (.bool b) = sitV (l.set k (l[k].1, b)) := by
  obtain ⟨e1, e2⟩ := sitV_part l k h (l[k].1, b)
  have hl : (sitV (l.take k)).length = k * 2 := by rw [sitV_length, List.length_take]; omega
  rw [e1, e2, List.append_assoc, List.append_assoc, List.set_append_right _ _ (by omega), hl, show k * 2 + 1 - k * 2 = 1 by omega]
  rfl
/-- a block of cells: what lies there -/
abbrev Bx (W : World) (b : Nat) (T : TypeId) (C : List Value) : Prop := W.heap[b]? = some (.cells C.toArray T (0, 0))
section
variable {W W' : World} {b : Nat} {C : List Value} {T : TypeId}
theorem Bx.at (h : Bx W b T C) (j : Nat) : W.cell? ⟨b, j, none⟩ = C[j]? := by
  rw [cell_of_row W b j C.toArray T (0, 0) h]
  simp
theorem Bx.frozen (h : Bx W b T C) (j : Nat) : W.frozen? ⟨b, j, none⟩ = false := by simp [World.frozen?, h]
theorem Bx.set (h : Bx W b T C) (j : Nat) (v : Value) : Bx (W.setCell ⟨b, j, none⟩ v) b T (C.set j v) := by
  simp [Bx, World.setCell, Array.getElem?_modify, h]
theorem Bx.lt (h : Bx W b T C) : b < W.heap.size := (Array.getElem?_eq_some_iff.1 h).1
theorem Bx.below (h : Bx W b T C) {B : Nat} (hb : Below B W W') (hB : b < B) : Bx W' b T C := (hb.block b hB).trans h
theorem Bx.new (W : World) (C : List Value) (T : TypeId) : Bx (W.alloc (.cells C.toArray T)) W.heap.size T C := heap_alloc_new W _
theorem Bx.alloc (h : Bx W b T C) (o : Obj) : Bx (W.alloc o) b T C := (Below.heap_alloc W o b h.lt).trans h
theorem Bx.far (h : Bx W b T C) {p : Addr} (hp : b ≠ p.block) (u : Value) : Bx (W.setCell p u) b T C := (Below.heap_setCell W p u b hp).trans h
theorem Bx.range (h : Bx W b T C) : W.rangeAt b 0 C := fun j v hj => by
  rw [Nat.zero_add, h.at]
  exact hj
theorem Bx.part (h : Bx W b T C) {o : Nat} {cs r : List Value} (e : C.drop o = cs ++ r) : W.rangeAt b o cs := fun j v hj => by
  rw [h.at, ← List.getElem?_drop, e, List.getElem?_append_left (List.getElem?_eq_some_iff.1 hj).1]
  exact hj
theorem Bx.there (h : Bx W b T C) {o n : Nat} (hn : o + n ≤ C.length) : W.there b o n := fun j hj => by
  rw [h.at, List.getElem?_eq_getElem (by omega)]
  exact ⟨rfl, h.frozen _⟩
theorem setCells_bx (b : Nat) (T : TypeId) : ∀ (vs old p r : List Value) (W : World), vs.length = old.length → Bx W b T (p ++ old ++ r) → Bx (W.setCells b p.length vs) b T (p ++ vs ++ r)
  | [], [], p, r, W, _, h => by simpa [World.setCells] using h
  | [], _ :: _, p, r, W, hl, h => by simp at hl
  | v :: vs, [], p, r, W, hl, h => by simp at hl
  | v :: vs, x :: old, p, r, W, hl, h => by
    rw [World.setCells]
    have h1 : Bx (W.setCell ⟨b, p.length, none⟩ v) b T ((p ++ [v]) ++ old ++ r) := by
      have := h.set p.length v
      have e : (p ++ x :: old ++ r).set p.length v = (p ++ [v]) ++ old ++ r := by
        rw [List.append_assoc, List.set_append_right _ _ (Nat.le_refl _), Nat.sub_self]
        simp
      rwa [e] at this
    have h2 := setCells_bx b T vs old (p ++ [v]) r _ (by simpa using hl) h1
    rw [List.length_append, List.length_singleton] at h2
    have e : (p ++ [v]) ++ vs ++ r = p ++ (v :: vs) ++ r := by simp
    rwa [e] at h2
theorem heap_setCells : ∀ (vs : List Value) (b o : Nat) (W : World) (k : Nat), k ≠ b → (W.setCells b o vs).heap[k]? = W.heap[k]?
  | [], _, _, _, _, _ => rfl
  | v :: r, b, o, W, k, hk => by
    rw [World.setCells, heap_setCells r b (o + 1) _ k hk]
    exact Below.heap_setCell _ ⟨b, o, none⟩ _ k hk
theorem below_sets {B : Nat} {a : World} : ∀ (vs : List Value) (b o : Nat) (w : World), B ≤ b → Below B a w → Below B a (w.setCells b o vs)
  | [], _, _, _, _, h => h
  | v :: r, b, o, w, hb, h => by
    rw [World.setCells]
    exact below_sets r b (o + 1) _ hb (h.setCell hb v)
end
/-- sixteen places: those of a row, and empty ones behind it -/
def pad (l : List Ck.Sit) : List Ck.Sit := l ++ List.replicate (16 - l.length) (0, false)
theorem pad_length {l : List Ck.Sit} (h : l.length ≤ 16) : (pad l).length = 16 := by simp [pad]; omega
theorem pad_get {l : List Ck.Sit} {k : Nat} (h : k < l.length) : (pad l)[k]? = some l[k] := by
  unfold pad
  rw [List.getElem?_append_left h, List.getElem?_eq_getElem h]
theorem pad_at (l : List Ck.Sit) (k : Nat) (h : k < 16) : (pad l)[k]? = some (l.getD k (0, false)) := by
  unfold pad
  rcases Nat.lt_or_ge k l.length with hk | hk
  · rw [List.getElem?_append_left hk, List.getElem?_eq_getElem hk, List.getD_eq_getElem?_getD, List.getElem?_eq_getElem hk]
    rfl
  · rw [List.getElem?_append_right hk, List.getElem?_replicate, if_pos (by omega), List.getD_eq_getElem?_getD, List.getElem?_eq_none hk]
    rfl
theorem pad_put {l : List Ck.Sit} (h : l.length < 16) (p : Ck.Sit) : (pad l).set l.length p = pad (l ++ [p]) := by
  refine List.ext_getElem? fun i => ?_
  rw [List.getElem?_set, pad_length (by omega)]
  rcases Nat.lt_or_ge i 16 with hi | hi
  · rw [pad_at _ i hi, pad_at _ i hi]
    split
    · next e =>
      subst e
      rw [List.getD_eq_getElem?_getD, List.getElem?_append_right (Nat.le_refl _)]
      simp
    · next e =>
      rw [List.getD_eq_getElem?_getD, List.getD_eq_getElem?_getD]
      rcases Nat.lt_or_ge i l.length with h1 | h1
      · rw [List.getElem?_append_left h1]
      · rw [List.getElem?_eq_none h1, List.getElem?_eq_none (by rw [List.length_append, List.length_singleton]; omega)]
  · rw [if_neg (by omega), List.getElem?_eq_none (by rw [pad_length (by omega)]; omega), List.getElem?_eq_none (by rw [pad_length (by rw [List.length_append, List.length_singleton]; omega)]; omega)]
theorem pad_set {l : List Ck.Sit} {k : Nat} (hk : k < l.length) (p : Ck.Sit) : (pad l).set k p = pad (l.set k p) := by
  unfold pad
  rw [List.set_append_left _ _ hk, List.length_set]
theorem pad_cut {l : List Ck.Sit} (h : l.length ≤ 16) {k : Nat} (hk : k < l.length) : ((pad l).take k ++ (pad l).drop (k + 1) ++ (pad l).drop 15).set (l.length - 1) (0, false) = pad (l.eraseIdx k) := by
  have hp := pad_length h
  have he : (l.eraseIdx k).length = l.length - 1 := by rw [List.length_eraseIdx, if_pos hk]
  refine List.ext_getElem? fun i => ?_
  have hl : ((pad l).take k ++ (pad l).drop (k + 1) ++ (pad l).drop 15).length = 16 := by simp [hp]; omega
  rw [List.getElem?_set, hl]
  rcases Nat.lt_or_ge i 16 with hi | hi
  · rw [pad_at _ i hi]
    split
    · next e =>
      rw [if_pos (by omega), List.getD_eq_getElem?_getD, List.getElem?_eq_none (by rw [he]; omega)]
      rfl
    · next e =>
      rw [List.getD_eq_getElem?_getD, List.getElem?_eraseIdx]
      rcases Nat.lt_or_ge i k with h1 | h1
      · rw [if_pos h1, List.append_assoc, List.getElem?_append_left (by rw [List.length_take, hp]; omega), List.getElem?_take, if_pos h1, pad_at _ i hi, List.getD_eq_getElem?_getD]
      · rw [if_neg (by omega)]
        rcases Nat.lt_or_ge i 15 with h2 | h2
        · rw [List.getElem?_append_left (by simp [hp]; omega), List.getElem?_append_right (by rw [List.length_take, hp]; omega), List.length_take, hp, Nat.min_eq_left (by omega), List.getElem?_drop, show k + 1 + (i - k) = i + 1 by omega, pad_at _ (i + 1) (by omega), List.getD_eq_getElem?_getD]
        · obtain rfl : i = 15 := by omega
          rw [List.getElem?_append_right (by simp [hp]; omega)]
          have e3 : ((pad l).take k ++ (pad l).drop (k + 1)).length = 15 := by simp [hp]; omega
          rw [e3, Nat.sub_self, List.getElem?_drop, pad_at _ 15 (by omega), List.getD_eq_getElem?_getD]
          rw [List.getElem?_eq_none (show l.length ≤ 15 by omega), List.getElem?_eq_none (show l.length ≤ 15 + 1 by omega)]
  · rw [if_neg (by omega), List.getElem?_eq_none (by rw [hl]; omega), List.getElem?_eq_none (by rw [pad_length (by omega)]; omega)]
/-- the cells of sixteen places and an end -/
def rawC (m : List Ck.Sit) (x : Int) : List Value := sitV m ++ [.int .i64 x]
theorem rawC_length {m : List Ck.Sit} (h : m.length = 16) (x : Int) : (rawC m x).length = 33 := by simp [rawC, sitV_length, h]
theorem rawC_cell (m : List Ck.Sit) (x : Int) : ∀ u ∈ rawC m x, u.oneCell' = true := by
  intro u hu
  rcases List.mem_append.1 hu with hu | hu
  · exact sitV_cell m u hu
  · rw [List.mem_singleton.1 hu]; rfl
theorem rawC_end {m : List Ck.Sit} (h : m.length = 16) (x : Int) : (rawC m x)[32]? = some (.int .i64 x) := by
  unfold rawC
  rw [List.getElem?_append_right (by rw [sitV_length]; omega), sitV_length, h]
  rfl
theorem rawC_at {m : List Ck.Sit} (x : Int) {k : Nat} (h : k < m.length) : (rawC m x)[k * 2]? = some (.int .i64 m[k].1) ∧ (rawC m x)[k * 2 + 1]? = some (.bool m[k].2) := by
  obtain ⟨h1, h2⟩ := sitV_get m k h
  unfold rawC
  rw [List.getElem?_append_left (by rw [sitV_length]; omega), List.getElem?_append_left (by rw [sitV_length]; omega)]
  exact ⟨h1, h2⟩
theorem rawC_setE {m : List Ck.Sit} (h : m.length = 16) (x y : Int) : (rawC m x).set 32 (.int .i64 y) = rawC m y := by
  unfold rawC
  rw [List.set_append_right _ _ (by rw [sitV_length]; omega), sitV_length, h]
  rfl
theorem rawC_setB {m : List Ck.Sit} (x : Int) {k : Nat} (h : k < m.length) (b : Bool) : (rawC m x).set (k * 2 + 1) (.bool b) = rawC (m.set k (m[k].1, b)) x := by
  unfold rawC
  rw [List.set_append_left _ _ (by rw [sitV_length]; omega), sitV_setB m k h]
/-- a place, stored whole -/
theorem Bx.place {W : World} {b : Nat} {T : TypeId} {m : List Ck.Sit} {x : Int} (h : Bx W b T (rawC m x)) {k : Nat} (hk : k < m.length) (p : Ck.Sit) : Bx (W.setCells b (k * 2) (sitC p)) b T (rawC (m.set k p) x) := by
  obtain ⟨e1, e2⟩ := sitV_part m k hk p
  have hl : (sitV (m.take k)).length = k * 2 := by rw [sitV_length, List.length_take]; omega
  unfold rawC at h ⊢
  rw [e1, List.append_assoc] at h
  rw [e2, List.append_assoc, ← hl]
  exact setCells_bx b T (sitC p) (sitC m[k]) _ _ W rfl h
/-- the places behind one, laid over it -/
theorem Bx.shift {W : World} {b : Nat} {T : TypeId} {m : List Ck.Sit} {x : Int} (hm : m.length = 16) (h : Bx W b T (rawC m x)) {k : Nat} (hk : k < 16) : Bx (W.setCells b (k * 2) (sitV (m.drop (k + 1)))) b T (rawC (m.take k ++ m.drop (k + 1) ++ m.drop 15) x) := by
  have hl : (sitV (m.take k)).length = k * 2 := by rw [sitV_length, List.length_take]; omega
  have e : rawC m x = sitV (m.take k) ++ sitV ((m.drop k).take (15 - k)) ++ (sitV (m.drop 15) ++ [.int .i64 x]) := by
    unfold rawC
    rw [sitV_append, ← List.append_assoc, sitV_append]
    refine congrArg (fun z => sitV z ++ _) ?_
    have e1 : m.drop k = (m.drop k).take (15 - k) ++ (m.drop k).drop (15 - k) := (List.take_append_drop _ _).symm
    rw [List.drop_drop, show k + (15 - k) = 15 by omega] at e1
    rw [List.append_assoc, ← e1, List.take_append_drop]
  have e2 : rawC (m.take k ++ m.drop (k + 1) ++ m.drop 15) x = sitV (m.take k) ++ sitV (m.drop (k + 1)) ++ (sitV (m.drop 15) ++ [.int .i64 x]) := by
    unfold rawC
    rw [← sitV_append, ← sitV_append, List.append_assoc, List.append_assoc]
  rw [e] at h
  rw [e2, ← hl]
  exact setCells_bx b T _ _ _ _ W (by rw [sitV_length, sitV_length]; simp [hm]; omega) h
/-- a ring's cells -/
def ringC (l : List Ck.Sit) : List Value := rawC (pad l) (l.length : Int)
abbrev ringV (l : List Ck.Sit) : Value := .agg (ringC l).toArray
theorem ringC_length {l : List Ck.Sit} (h : l.length ≤ 16) : (ringC l).length = 33 := rawC_length (pad_length h) _
theorem ringC_cell (l : List Ck.Sit) : ∀ u ∈ ringC l, u.oneCell' = true := rawC_cell _ _
theorem ring_size : (Try.prog.info? 28).map (·.size) = some 33 := by kernel_rfl
theorem place_size : (Try.prog.info? 25).map (·.size) = some 2 := by kernel_rfl
theorem ring_zero (W : World) : (zeroValue 28).run Try.prog W = .ok (.agg (ringC []).toArray) W := by kernel_rfl
theorem ring_get {l : List Ck.Sit} {k : Nat} (h : k < l.length) : (ringC l)[k * 2]? = some (.int .i64 l[k].1) ∧ (ringC l)[k * 2 + 1]? = some (.bool l[k].2) := by
  have h1 : k < (pad l).length := by unfold pad; rw [List.length_append]; omega
  have h2 := pad_get h
  rw [List.getElem?_eq_getElem h1] at h2
  injection h2 with h2
  rw [← h2]
  exact rawC_at _ h1
theorem ring_end {l : List Ck.Sit} (h : l.length ≤ 16) : (ringC l)[32]? = some (.int .i64 (l.length : Int)) := rawC_end (pad_length h) _
/-- what a call with a ring as its result makes of the variable -/
theorem res_ring {U : World} {tm : Array Value} {b : Nat} {cs : List Value} {f : Func} {s : Nat} (hf : f.results = #[.cell s 28]) (h4 : tm.getD s undef = .pointer (some ⟨b, 0, none⟩)) (hr : U.rangeAt b 0 cs) (hl : cs.length = 33) :
    (results f tm).run Try.prog U = .ok (.agg cs.toArray) U := by
  have h5 : tm[s]?.getD undef = .pointer (some ⟨b, 0, none⟩) := by simpa using h4
  have hl := run_loadVar_mid (P := Try.prog) U b 0 28 cs _ hr Try.underlying28 (by rfl) (by rw [ring_size, hl])
  simp [results, hf, h5, asAddr, hl]
end Go.Proofs.Ytlhkcfhhgcmieaa
