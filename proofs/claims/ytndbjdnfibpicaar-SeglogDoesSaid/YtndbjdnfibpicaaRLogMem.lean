/-
  The program's log, and the document's, as they lie.
-/
import Derived.Test.YtndbjdnfibpicaaRLogMath
import Derived.Test.YtndbjdnfibpicaaRMMany
import Derived.Test.YtndbjdnfibpicaaRMBytes
namespace Go.Proofs.YtndbjdnfibpicaaR
open Go.ChangeShapes Go.WideShapes Go.ChangeAt Go.RowKit Fl Lo
set_option maxRecDepth 100000

/-- the program's log, in block lb: its device, the states of the segments that there are (what is behind them plays no part), the page, the next number -/
def Lb (w : World) (lb db : Nat) (st : List Int) (pg : Int) (next : Nat) : Prop :=
  ∃ cs : Array Value, w.heap[lb]? = some (.cells cs 72 (0, 0)) ∧ cs.size = 19 ∧ cs[0]? = some (.pointer (some ⟨db, 0, none⟩)) ∧ (∀ i : Nat, ∀ x, st[i]? = some x → cs[1 + i]? = some (.int .i64 x)) ∧ st.length ≤ 16 ∧ cs[17]? = some (.int .i64 pg) ∧ cs[18]? = some (.int .u64 next)
section
variable {w w' : World} {lb db : Nat} {st : List Int} {pg : Int} {next : Nat}
theorem Lb.lt (h : Lb w lb db st pg next) : lb < w.heap.size := by
  obtain ⟨cs, h1, _⟩ := h
  exact (Array.getElem?_eq_some_iff.1 h1).1
theorem Lb.kept (h : Lb w lb db st pg next) (hb : w'.heap[lb]? = w.heap[lb]?) : Lb w' lb db st pg next := by
  obtain ⟨cs, h1, r⟩ := h
  exact ⟨cs, hb.trans h1, r⟩
theorem Lb.c0 (h : Lb w lb db st pg next) : w.cell? ⟨lb, 0, none⟩ = some (.pointer (some ⟨db, 0, none⟩)) := by
  obtain ⟨cs, h1, _, h2, _⟩ := h
  rw [cell_of_row w lb 0 cs _ _ h1]; exact h2
theorem Lb.c17 (h : Lb w lb db st pg next) : w.cell? ⟨lb, 17, none⟩ = some (.int .i64 pg) := by
  obtain ⟨cs, h1, _, _, _, _, h2, _⟩ := h
  rw [cell_of_row w lb 17 cs _ _ h1]; exact h2
theorem Lb.c18 (h : Lb w lb db st pg next) : w.cell? ⟨lb, 18, none⟩ = some (.int .u64 next) := by
  obtain ⟨cs, h1, _, _, _, _, _, h2⟩ := h
  rw [cell_of_row w lb 18 cs _ _ h1]; exact h2
theorem Lb.cst (h : Lb w lb db st pg next) {i : Nat} {x : Int} (hi : st[i]? = some x) : w.cell? ⟨lb, 1 + i, none⟩ = some (.int .i64 x) := by
  obtain ⟨cs, h1, _, _, h2, _⟩ := h
  rw [cell_of_row w lb (1 + i) cs _ _ h1]; exact h2 i x hi
theorem Lb.froz (h : Lb w lb db st pg next) (i : Nat) : w.frozen? ⟨lb, i, none⟩ = false := by
  obtain ⟨cs, h1, _⟩ := h
  simp [World.frozen?, h1]
/-- the states as a slice -/
theorem Lb.vs (h : Lb w lb db st pg next) : Vs w w.heap.size (some ⟨lb, 1, none⟩) st.length (nums .i64 st) := by
  have hlt := h.lt
  obtain ⟨cs, h1, _, _, h2, _⟩ := h
  refine Vs.of_block h1 hlt (nums_length _ _) fun j hj => ?_
  have hj' : j < st.length := by rwa [nums_length] at hj
  rw [nums_get _ _ _ _ hj']
  exact h2 j _ (List.getElem?_eq_getElem hj')
theorem lb_set {cs : Array Value} {T : TypeId} (h : w.heap[lb]? = some (.cells cs T (0, 0))) (i : Nat) (u : Value) : (w.setCell ⟨lb, i, none⟩ u).heap[lb]? = some (.cells (cs.setIfInBounds i u) T (0, 0)) := by
  simp [World.setCell, Array.getElem?_modify, h]
theorem Lb.setSt (h : Lb w lb db st pg next) {k : Nat} (hk : k < st.length) (x : Int) : Lb (w.setCell ⟨lb, 1 + k, none⟩ (.int .i64 x)) lb db (st.set k x) pg next := by
  obtain ⟨cs, h1, hsz, h0, hst, hl, h17, h18⟩ := h
  refine ⟨_, lb_set h1 _ _, by simp [hsz], ?_, fun i y hi => ?_, by rw [List.length_set]; exact hl, ?_, ?_⟩
  · rw [Array.getElem?_setIfInBounds_ne (by omega)]; exact h0
  · by_cases hik : i = k
    · subst hik
      rw [List.getElem?_set_self hk] at hi
      injection hi with hi
      subst hi
      rw [Array.getElem?_setIfInBounds_self_of_lt (by omega)]
    · rw [List.getElem?_set_ne (Ne.symm hik)] at hi
      rw [Array.getElem?_setIfInBounds_ne (by omega)]
      exact hst i y hi
  · rw [Array.getElem?_setIfInBounds_ne (by omega)]; exact h17
  · rw [Array.getElem?_setIfInBounds_ne (by omega)]; exact h18
theorem Lb.setPage (h : Lb w lb db st pg next) (x : Int) : Lb (w.setCell ⟨lb, 17, none⟩ (.int .i64 x)) lb db st x next := by
  obtain ⟨cs, h1, hsz, h0, hst, hl, h17, h18⟩ := h
  refine ⟨_, lb_set h1 _ _, by simp [hsz], ?_, fun i y hi => ?_, hl, ?_, ?_⟩
  · rw [Array.getElem?_setIfInBounds_ne (by omega)]; exact h0
  · have := (List.getElem?_eq_some_iff.1 hi).1
    rw [Array.getElem?_setIfInBounds_ne (by omega)]; exact hst i y hi
  · rw [Array.getElem?_setIfInBounds_self_of_lt (by omega)]
  · rw [Array.getElem?_setIfInBounds_ne (by omega)]; exact h18
theorem Lb.setNext (h : Lb w lb db st pg next) (x : Nat) : Lb (w.setCell ⟨lb, 18, none⟩ (.int .u64 x)) lb db st pg x := by
  obtain ⟨cs, h1, hsz, h0, hst, hl, h17, h18⟩ := h
  refine ⟨_, lb_set h1 _ _, by simp [hsz], ?_, fun i y hi => ?_, hl, ?_, ?_⟩
  · rw [Array.getElem?_setIfInBounds_ne (by omega)]; exact h0
  · have := (List.getElem?_eq_some_iff.1 hi).1
    rw [Array.getElem?_setIfInBounds_ne (by omega)]; exact hst i y hi
  · rw [Array.getElem?_setIfInBounds_ne (by omega)]; exact h17
  · rw [Array.getElem?_setIfInBounds_self_of_lt (by omega)]
end
/-- a new one -/
abbrev newCells (db : Nat) (nI : Int) : Array Value := #[.pointer (some ⟨db, 0, none⟩), .int .i64 0, .int .i64 0, .int .i64 0, .int .i64 0, .int .i64 0, .int .i64 0, .int .i64 0, .int .i64 0, .int .i64 0, .int .i64 0, .int .i64 0, .int .i64 0, .int .i64 0, .int .i64 0, .int .i64 0, .int .i64 0, .int .i64 0, .int .u64 nI]
theorem Lb.new (w : World) (db next : Nat) (nI : Int) (hn : (next : Int) = nI) {S : Nat} (hS : S ≤ 16) : Lb (w.alloc (.cells (newCells db nI) 72)) w.heap.size db (List.replicate S 0) 0 next := by
  subst hn
  refine ⟨newCells db next, heap_alloc_new w _, rfl, rfl, fun i x hi => ?_, by simpa using hS, rfl, rfl⟩
  obtain ⟨hlt, he⟩ := List.getElem?_eq_some_iff.1 hi
  simp only [List.getElem_replicate] at he
  subst he
  have : i < S := by simpa using hlt
  have : ∀ j : Nat, j < 16 → (newCells db next)[1 + j]? = some (.int .i64 0) := by
    intro j hj
    match j, hj with
    | 0, _ | 1, _ | 2, _ | 3, _ | 4, _ | 5, _ | 6, _ | 7, _ | 8, _ | 9, _ | 10, _ | 11, _ | 12, _ | 13, _ | 14, _ | 15, _ => rfl
    | j + 16, hj => exact absurd hj (by omega)
  exact this i (by omega)

/-- the program's log: its device of colour 1, its own block of colour 3 -/
structure Plg (w : World) (v : Nat → Nat) (S P B lb db mb : Nat) (g : Lg) : Prop where
  inv : Inv S P B g
  s4 : 4 ≤ S
  dev : Dev w v 1 S P B db mb g.M
  vl : v lb = 3
  blk : ∃ pg, Lb w lb db g.st pg g.next ∧ (0 ≤ g.op → pg = g.page)
/-- a row of states, in a block of its own -/
def Rb (w : World) (rb : Nat) (st : List Int) : Prop := ∃ cs : Array Value, w.heap[rb]? = some (.cells cs 3 (0, 0)) ∧ ∀ i : Nat, ∀ x, st[i]? = some x → cs[i]? = some (.int .i64 x)
/-- the document's log, in block gb -/
def Gb (w : World) (gb xb rb S cap : Nat) (op page : Int) (next : Nat) : Prop :=
  w.heap[gb]? = some (.cells #[.pointer (some ⟨xb, 0, none⟩), .slice (some ⟨rb, 0, none⟩) S cap, .int .i64 op, .int .i64 page, .int .u64 next] 42 (0, 0))
section
variable {w w' : World} {gb xb rb S cap next : Nat} {op page : Int} {st : List Int}
theorem Rb.lt (h : Rb w rb st) : rb < w.heap.size := by
  obtain ⟨cs, h1, _⟩ := h
  exact (Array.getElem?_eq_some_iff.1 h1).1
theorem Rb.kept (h : Rb w rb st) (e : w'.heap[rb]? = w.heap[rb]?) : Rb w' rb st := by
  obtain ⟨cs, h1, r⟩ := h
  exact ⟨cs, e.trans h1, r⟩
theorem Rb.c (h : Rb w rb st) {i : Nat} {x : Int} (hi : st[i]? = some x) : w.cell? ⟨rb, i, none⟩ = some (.int .i64 x) := by
  obtain ⟨cs, h1, h2⟩ := h
  rw [cell_of_row w rb i cs _ _ h1]; exact h2 i x hi
theorem Rb.f (h : Rb w rb st) (i : Nat) : w.frozen? ⟨rb, i, none⟩ = false := by
  obtain ⟨cs, h1, _⟩ := h
  simp [World.frozen?, h1]
theorem Rb.set (h : Rb w rb st) {k : Nat} (hk : k < st.length) (x : Int) : Rb (w.setCell ⟨rb, k, none⟩ (.int .i64 x)) rb (st.set k x) := by
  obtain ⟨cs, h1, hst⟩ := h
  refine ⟨_, lb_set h1 _ _, fun i y hi => ?_⟩
  by_cases hik : i = k
  · subst hik
    rw [List.getElem?_set_self hk] at hi
    injection hi with hi
    subst hi
    have hlt : i < cs.size := (Array.getElem?_eq_some_iff.1 (hst i _ (List.getElem?_eq_getElem hk))).1
    rw [Array.getElem?_setIfInBounds_self_of_lt hlt]
  · rw [List.getElem?_set_ne (Ne.symm hik)] at hi
    rw [Array.getElem?_setIfInBounds_ne (Ne.symm hik)]
    exact hst i y hi
theorem Gb.lt (h : Gb w gb xb rb S cap op page next) : gb < w.heap.size := (Array.getElem?_eq_some_iff.1 h).1
theorem Gb.kept (h : Gb w gb xb rb S cap op page next) (e : w'.heap[gb]? = w.heap[gb]?) : Gb w' gb xb rb S cap op page next := e.trans h
theorem Gb.c (h : Gb w gb xb rb S cap op page next) : w.cell? ⟨gb, 0, none⟩ = some (.pointer (some ⟨xb, 0, none⟩)) ∧ w.cell? ⟨gb, 1, none⟩ = some (.slice (some ⟨rb, 0, none⟩) S cap) ∧ w.cell? ⟨gb, 2, none⟩ = some (.int .i64 op) ∧ w.cell? ⟨gb, 3, none⟩ = some (.int .i64 page) ∧ w.cell? ⟨gb, 4, none⟩ = some (.int .u64 next) := by
  unfold Gb at h
  refine ⟨?_, ?_, ?_, ?_, ?_⟩ <;> simp [World.cell?, h]
theorem Gb.f (h : Gb w gb xb rb S cap op page next) (i : Nat) : w.frozen? ⟨gb, i, none⟩ = false := by
  unfold Gb at h
  simp [World.frozen?, h]
theorem Gb.setOp (h : Gb w gb xb rb S cap op page next) (x : Int) : Gb (w.setCell ⟨gb, 2, none⟩ (.int .i64 x)) gb xb rb S cap x page next := by
  unfold Gb at h ⊢
  simp [World.setCell, Array.getElem?_modify, h]
theorem Gb.setPage (h : Gb w gb xb rb S cap op page next) (x : Int) : Gb (w.setCell ⟨gb, 3, none⟩ (.int .i64 x)) gb xb rb S cap op x next := by
  unfold Gb at h ⊢
  simp [World.setCell, Array.getElem?_modify, h]
theorem Gb.setNext (h : Gb w gb xb rb S cap op page next) (x : Nat) : Gb (w.setCell ⟨gb, 4, none⟩ (.int .u64 x)) gb xb rb S cap op page x := by
  unfold Gb at h ⊢
  simp [World.setCell, Array.getElem?_modify, h]
end
/-- the document's: its device of colour 2, its own blocks of colour 4 -/
structure Rlg (w : World) (v : Nat → Nat) (S P B gb xb : Nat) (g : Lg) : Prop where
  inv : Inv S P B g
  rdv : Rdv w v 2 S P B xb g.M
  vg : v gb = 4
  blk : ∃ rb cap, Gb w gb xb rb S cap g.op g.page g.next ∧ Rb w rb g.st ∧ v rb = 4 ∧ rb ≠ gb
/-- the colours of the program's log, with those of the boxes of its calls; of the document's -/
def K13 (k : Nat) : Prop := k = 1 ∨ k = 3
def K135 (k : Nat) : Prop := k = 1 ∨ k = 3 ∨ k = 5
def Kp (k : Nat) : Prop := k = 1 ∨ k = 3 ∨ k = 5 ∨ k = 7
def K24 (k : Nat) : Prop := k = 2 ∨ k = 4
def Kr (k : Nat) : Prop := k = 2 ∨ k = 4 ∨ k = 6
theorem k13_135 : ∀ k, K13 k → K135 k := by unfold K13 K135; omega
theorem k135_p : ∀ k, K135 k → Kp k := by unfold K135 Kp; omega
theorem k13_p : ∀ k, K13 k → Kp k := by unfold K13 Kp; omega
theorem k24_r : ∀ k, K24 k → Kr k := by unfold K24 Kr; omega
section
variable {w w' : World} {v v' : Nat → Nat} {S P B lb db mb gb xb k : Nat} {g : Lg}
theorem Plg.fr (h : Plg w v S P B lb db mb g) : Fr w v := h.dev.fr
theorem Rlg.fr (h : Rlg w v S P B gb xb g) : Fr w v := h.rdv.fr
theorem Plg.ms {K : Nat → Prop} (h : Plg w v S P B lb db mb g) (hm : Ms K w v w' v') (k1 : ¬ K 1) (k3 : ¬ K 3) (k0 : ¬ K 0) : Plg w' v' S P B lb db mb g := by
  obtain ⟨pg, h1, h2⟩ := h.blk
  have hlt := h1.lt
  exact ⟨h.inv, h.s4, hm.dev h.dev k1 k0, by rw [hm.same hlt]; exact h.vl, pg, h1.kept (hm.block hlt (by rw [h.vl]; exact k3)), h2⟩
theorem Plg.below (h : Plg w v S P B lb db mb g) (hb : Below w.heap.size w w') : Plg w' v S P B lb db mb g := by
  obtain ⟨pg, h1, h2⟩ := h.blk
  exact ⟨h.inv, h.s4, h.dev.below hb, h.vl, pg, h1.kept (hb.block lb h1.lt), h2⟩
theorem Rlg.ms {K : Nat → Prop} (h : Rlg w v S P B gb xb g) (hm : Ms K w v w' v') (k2 : ¬ K 2) (k4 : ¬ K 4) (k0 : ¬ K 0) : Rlg w' v' S P B gb xb g := by
  obtain ⟨rb, cap, h1, h2, h3, h4⟩ := h.blk
  exact ⟨h.inv, hm.rdv h.rdv k2 k0, by rw [hm.same h1.lt]; exact h.vg, rb, cap, h1.kept (hm.block h1.lt (by rw [h.vg]; exact k4)), h2.kept (hm.block h2.lt (by rw [h3]; exact k4)), by rw [hm.same h2.lt]; exact h3, h4⟩
theorem Rlg.below (h : Rlg w v S P B gb xb g) (hb : Below w.heap.size w w') : Rlg w' v S P B gb xb g := by
  obtain ⟨rb, cap, h1, h2, h3, h4⟩ := h.blk
  exact ⟨h.inv, h.rdv.below hb, h.vg, rb, cap, h1.kept (hb.block gb h1.lt), h2.kept (hb.block rb h2.lt), h3, h4⟩
end
end Go.Proofs.YtndbjdnfibpicaaR
