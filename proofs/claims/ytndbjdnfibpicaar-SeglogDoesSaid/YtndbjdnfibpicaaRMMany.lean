/-
  Who may write which block: colours (0: nobody any more, or nobody yet; k: device k). The program's device, and the document's, as they lie.
  Steps of several colours: what each of them leaves as it was, all of them do.
-/
import Derived.Test.YtndbjdnfibpicaaRFlashMath
import Derived.Test.YtndbjdnfibpicaaRFlashMap
import Derived.Test.YtndbjdnfibpicaaRMBytes
import Derived.Laws.AppendOwn
import Derived.Laws.OwnMore
section
namespace Go.Proofs.YtndbjdnfibpicaaR
open Go.ChangeShapes Go.WideShapes Go.ChangeAt Go.RowKit Fl
set_option maxRecDepth 100000

/-- what isn't there yet has no colour -/
def Fr (w : World) (v : Nat → Nat) : Prop := ∀ i, w.heap.size ≤ i → v i = 0
/-- nothing is written but blocks of colour k, and new ones -/
structure Stp (k : Nat) (w w' : World) (v v' : Nat → Nat) : Prop where
  os : w'.os = w.os
  tape : w'.tape = w.tape
  output : w'.output = w.output
  size : w.heap.size ≤ w'.heap.size
  same : ∀ i, i < w.heap.size → v' i = v i
  fresh : Fr w' v'
  block : ∀ i, i < w.heap.size → v i ≠ k → w'.heap[i]? = w.heap[i]?
def paint (v : Nat → Nat) (b k : Nat) : Nat → Nat := fun i => if i = b then k else v i
theorem paint_same (v : Nat → Nat) (b k : Nat) : paint v b k b = k := by simp [paint]
theorem paint_other {v : Nat → Nat} {b k i : Nat} (h : i ≠ b) : paint v b k i = v i := by simp [paint, h]
section
variable {k : Nat} {w w1 w' : World} {v v1 v' : Nat → Nat}
theorem Fr.below {B : Nat} (h : Fr w v) (hb : Below B w w') : Fr w' v := fun i hi => h i (Nat.le_trans hb.size hi)
theorem Stp.refl (h : Fr w v) : Stp k w w v v := ⟨rfl, rfl, rfl, Nat.le_refl _, fun _ _ => rfl, h, fun _ _ _ => rfl⟩
theorem Stp.trans (h : Stp k w w1 v v1) (h2 : Stp k w1 w' v1 v') : Stp k w w' v v' :=
  ⟨h2.os.trans h.os, h2.tape.trans h.tape, h2.output.trans h.output, Nat.le_trans h.size h2.size, fun i hi => (h2.same i (Nat.lt_of_lt_of_le hi h.size)).trans (h.same i hi), h2.fresh,
    fun i hi hne => (h2.block i (Nat.lt_of_lt_of_le hi h.size) (by rw [h.same i hi]; exact hne)).trans (h.block i hi hne)⟩
theorem Stp.below (hb : Below w.heap.size w w') (h : Fr w v) : Stp k w w' v v := ⟨hb.os, hb.tape, hb.output, hb.size, fun _ _ => rfl, h.below hb, fun i hi _ => hb.block i hi⟩
theorem Stp.grown {row : Option Nat} (hg : w.grownBy w' row) (hr : ∀ g, row = some g → v g = k) (h : Fr w v) : Stp k w w' v v :=
  ⟨hg.os, hg.tape, hg.output, hg.size, fun _ _ => rfl, fun i hi => h i (Nat.le_trans hg.size hi), fun i hi hne => hg.block i hi fun e => hne (hr i e.symm)⟩
theorem Stp.turned {mb : Nat} (ht : w.mapTurned w' mb) (hm : v mb = k) (h : Fr w v) : Stp k w w' v v := Stp.grown ht.grown (fun g e => by injection e with e; rw [← e]; exact hm) h
theorem Stp.setCell {a : Addr} (ha : v a.block = k) (u : Value) (h : Fr w v) : Stp k w (w.setCell a u) v v := by
  have e : (w.setCell a u).heap.size = w.heap.size := by simp [World.setCell]
  refine ⟨rfl, rfl, rfl, Nat.le_of_eq e.symm, fun _ _ => rfl, fun i hi => h i (by rwa [e] at hi), fun i _ hne => Below.heap_setCell w a u i fun e2 => hne (by rw [e2]; exact ha)⟩
theorem Stp.drew (h : Stp k w w' v v') : Stp k w w'.drew v v' := ⟨h.os, h.tape, h.output, h.size, h.same, h.fresh, h.block⟩
theorem Stp.paint (h : Stp k w w' v v1) {b : Nat} (c : Nat) (hb : w.heap.size ≤ b) (hb2 : b < w'.heap.size) : Stp k w w' v (paint v1 b c) :=
  ⟨h.os, h.tape, h.output, h.size, fun i hi => by rw [paint_other (by omega)]; exact h.same i hi, fun i hi => by rw [paint_other (by omega)]; exact h.fresh i hi, h.block⟩
theorem Stp.toBelow (h : Stp k w w' v v') {B : Nat} (hB : B ≤ w.heap.size) (hv : ∀ i, i < B → v i ≠ k) : Below B w w' :=
  ⟨h.os, h.tape, h.output, h.size, fun i hi => h.block i (Nat.lt_of_lt_of_le hi hB) (hv i hi)⟩
theorem Stp.cell (h : Stp k w w' v v') {a : Addr} {x : Value} (hc : w.cell? a = some x) (hne : v a.block ≠ k) : w'.cell? a = some x :=
  (World.cell?_of_block (h.block a.block (World.block_lt_of_cell? w a hc) hne)).trans hc
theorem Stp.froz (h : Stp k w w' v v') {a : Addr} (ha : a.block < w.heap.size) (hne : v a.block ≠ k) : w'.frozen? a = w.frozen? a :=
  World.frozen?_of_block (h.block a.block ha hne)
theorem Stp.zero (h : Stp k w w' v v') {B : Nat} (hB : B ≤ w.heap.size) (hv : ∀ i, i < B → v i = 0) : ∀ i, i < B → v' i = 0 := fun i hi => by rw [h.same i (by omega)]; exact hv i hi
end

/-- x is a slice that reads as these bytes -/
def Sl (w : World) (x : Value) (l : List UInt8) : Prop := ∃ A c, x = .slice A l.length c ∧ l.length ≤ c ∧ Bs w w.heap.size A l.length l ∧ (A = none → c = 0)
theorem Sl.below {w w' : World} {x : Value} {l : List UInt8} (h : Sl w x l) (hb : Below w.heap.size w w') : Sl w' x l := by
  obtain ⟨A, c, e, hc, h1, h2⟩ := h
  exact ⟨A, c, e, hc, (h1.below hb).mono hb.size, h2⟩
/-- x is a slice that reads as these bytes; nobody writes them any more -/
def Dt (w : World) (v : Nat → Nat) (x : Value) (l : List UInt8) : Prop :=
  ∃ A c, x = .slice A l.length c ∧ l.length ≤ c ∧ Bs w w.heap.size A l.length l ∧ (A = none → c = 0) ∧ (0 < l.length → ∀ a, A = some a → v a.block = 0)
section
variable {k : Nat} {w w1 w' : World} {v v1 v' : Nat → Nat} {x : Value} {l : List UInt8}
theorem Dt.stp (h : Dt w v x l) (hst : Stp k w w' v v') (hk : k ≠ 0) : Dt w' v' x l := by
  obtain ⟨A, c, rfl, hc, hb, hno, hv⟩ := h
  refine ⟨A, c, rfl, hc, ⟨rfl, fun h0 => ?_⟩, hno, fun h0 a ha => ?_⟩
  · obtain ⟨b, off, rfl, hlt, hx⟩ := hb.2 h0
    have := hv h0 _ rfl
    dsimp only at this
    exact ⟨b, off, rfl, Nat.lt_of_lt_of_le hlt hst.size, fun j hj => hst.cell (hx j hj) (by show v b ≠ k; omega)⟩
  · obtain ⟨b, off, rfl, hlt, hx⟩ := hb.2 h0
    injection ha with ha
    subst ha
    rw [hst.same _ hlt]
    exact hv h0 _ rfl
theorem Dt.take {A : Option Addr} {c n : Nat} (h : Dt w v (.slice A l.length c) l) (hn : n ≤ l.length) : Dt w v (.slice A n c) (l.take n) := by
  obtain ⟨A', c', e, hc, hb, hno, hv⟩ := h
  injection e with e1 _ e2
  subst e1 e2
  have hl : (l.take n).length = n := by rw [List.length_take]; omega
  exact ⟨A, c, by rw [hl], by rw [hl]; omega, by rw [hl]; exact hb.front hn, hno, fun h0 a ha => hv (by rw [hl] at h0; omega) a ha⟩
theorem Dt.sl (h : Dt w v x l) : Sl w x l := by
  obtain ⟨A, c, e, hc, h1, h2, _⟩ := h
  exact ⟨A, c, e, hc, h1, h2⟩
theorem Dt.nil (w : World) (v : Nat → Nat) : Dt w v nl [] := ⟨none, 0, rfl, Nat.le_refl _, Bs.nil _ _ _, fun _ => rfl, fun h => absurd h (by simp)⟩
/-- bytes that were just made -/
theorem Dt.made {A : Option Addr} {c : Nat} (hf : Fr w v) (hc : l.length ≤ c) (hb : Bs w' w'.heap.size A l.length l) (hno : A = none → c = 0) (hn : 0 < l.length → ∀ a, A = some a → w.heap.size ≤ a.block) : Dt w' v (.slice A l.length c) l :=
  ⟨A, c, rfl, hc, hb, hno, fun h0 a ha => hf _ (hn h0 a ha)⟩
end

/-- places as cells, two each -/
def cells2 (x : Int × Int) : List Value := [.int .i64 x.1, .int .i64 x.2]
def duos (L : List (Int × Int)) : List Value := L.flatMap cells2
theorem duos_cons (x : Int × Int) (L : List (Int × Int)) : duos (x :: L) = .int .i64 x.1 :: .int .i64 x.2 :: duos L := rfl
theorem duos_append (L M : List (Int × Int)) : duos L ++ duos M = duos (L ++ M) := by simp [duos]
theorem duos_length (L : List (Int × Int)) : (duos L).length = L.length * 2 := by
  induction L with
  | nil => rfl
  | cons x L ih => rw [duos_cons]; simp only [List.length_cons, ih]; omega
theorem duos_one (L : List (Int × Int)) : ∀ u ∈ duos L, u.oneCell' = true := by
  intro u hu
  obtain ⟨x, _, hx⟩ := List.mem_flatMap.1 hu
  simp only [cells2, List.mem_cons, List.not_mem_nil, or_false] at hx
  rcases hx with rfl | rfl <;> rfl
theorem duos_get : ∀ (L : List (Int × Int)) (k : Nat) (h : k < L.length), (duos L)[k * 2]? = some (.int .i64 L[k].1) ∧ (duos L)[k * 2 + 1]? = some (.int .i64 L[k].2)
  | [], k, h => absurd h (by simp)
  | x :: L, 0, _ => ⟨rfl, rfl⟩
  | x :: L, k + 1, h => by
    have := duos_get L k (by simpa using h)
    rw [duos_cons]
    have e : (k + 1) * 2 = k * 2 + 1 + 1 := by omega
    rw [e]
    simpa using this
/-- pages as cells, four each; each beside the value that its bytes are -/
def cells4 (q : Pg × Value) : List Value := [.int .i64 q.1.seg, .int .i64 q.1.page, q.2, .bool q.1.dirty]
def quads (Q : List (Pg × Value)) : List Value := Q.flatMap cells4
theorem quads_cons (q : Pg × Value) (Q : List (Pg × Value)) : quads (q :: Q) = .int .i64 q.1.seg :: .int .i64 q.1.page :: q.2 :: .bool q.1.dirty :: quads Q := rfl
theorem quads_append (L M : List (Pg × Value)) : quads L ++ quads M = quads (L ++ M) := by simp [quads]
theorem quads_length (L : List (Pg × Value)) : (quads L).length = L.length * 4 := by
  induction L with
  | nil => rfl
  | cons x L ih => rw [quads_cons]; simp only [List.length_cons, ih]; omega
theorem quads_get : ∀ (L : List (Pg × Value)) (k : Nat) (h : k < L.length), (quads L)[k * 4]? = some (.int .i64 L[k].1.seg) ∧ (quads L)[k * 4 + 1]? = some (.int .i64 L[k].1.page) ∧ (quads L)[k * 4 + 2]? = some L[k].2 ∧ (quads L)[k * 4 + 3]? = some (.bool L[k].1.dirty)
  | [], k, h => absurd h (by simp)
  | x :: L, 0, _ => ⟨rfl, rfl, rfl, rfl⟩
  | x :: L, k + 1, h => by
    have := quads_get L k (by simpa using h)
    rw [quads_cons]
    have e : (k + 1) * 4 = k * 4 + 1 + 1 + 1 + 1 := by omega
    rw [e]
    simpa [Nat.add_assoc] using this
/-- one page is lasting -/
theorem quads_set : ∀ (L : List (Pg × Value)) (k : Nat) (h : k < L.length) (y : Bool), (quads L).set (k * 4 + 3) (.bool y) = quads (L.set k ({ L[k].1 with dirty := y }, L[k].2))
  | [], k, h, _ => absurd h (by simp)
  | x :: L, 0, _, y => rfl
  | x :: L, k + 1, h, y => by
    have := quads_set L k (by simpa using h) y
    rw [quads_cons]
    have e : (k + 1) * 4 + 3 = k * 4 + 3 + 1 + 1 + 1 + 1 := by omega
    rw [e]
    simp only [List.set_cons_succ, this, quads_cons, List.getElem_cons_succ]

/-- the map holds just these pages -/
def Pm (w : World) (v : Nat → Nat) (mb : Nat) (L : List Pg) : Prop :=
  ∃ f, Mp w mb L.length f ∧ ∀ s p, (lk L s p = none ∧ f s p = none) ∨ ∃ r x, lk L s p = some r ∧ f s p = some x ∧ Dt w v x r
/-- a device of the program's, in block db; its map in mb -/
structure Dev (w : World) (v : Nat → Nat) (k S P B db mb : Nat) (L : List Pg) : Prop where
  shp : Shp S P B
  ok : Ok S P B L
  fr : Fr w v
  vd : v db = k
  vm : v mb = k
  ne : mb ≠ db
  cells : ∃ u, w.heap[db]? = some (.cells #[.int .i64 S, .int .i64 P, .int .i64 B, .map (some mb), u] 60 (0, 0)) ∧ w.ownsRow 0 51 2 u (dirt L).length (duos (dirt L)) ∧ ∀ g, u.ownBlock = some g → v g = k ∧ g ≠ db ∧ g ≠ mb
  map : Pm w v mb L
/-- a device of the document's, in block xb -/
structure Rdv (w : World) (v : Nat → Nat) (k S P B xb : Nat) (L : List Pg) : Prop where
  shp : Shp S P B
  ok : Ok S P B L
  fr : Fr w v
  vx : v xb = k
  cells : ∃ u Q, w.heap[xb]? = some (.cells #[.int .i64 S, .int .i64 P, .int .i64 B, u] 75 (0, 0)) ∧ Q.map Prod.fst = L ∧ w.ownsRow 0 93 4 u L.length (quads Q) ∧
    (∀ g, u.ownBlock = some g → v g = k ∧ g ≠ xb) ∧ ∀ q ∈ Q, Dt w v q.2 (full B q.1.raw)
section
variable {k k2 S P B db mb xb : Nat} {w w1 w' : World} {v v1 v' : Nat → Nat} {L : List Pg}
theorem own_stp {e : TypeId} {size : Nat} {u : Value} {n : Nat} {xs : List Value} (h : w.ownsRow 0 e size u n xs) (hst : Stp k w w' v v') (hu : ∀ g, u.ownBlock = some g → v g ≠ k) : w'.ownsRow 0 e size u n xs := by
  refine ⟨h.1, ?_⟩
  rcases h.2 with hn | ⟨g, cap, cur, rfl, hb, hgg, rest⟩
  · exact .inl hn
  · refine .inr ⟨g, cap, cur, rfl, hb, ?_, rest⟩
    rw [hst.block g (Array.getElem?_eq_some_iff.1 hgg).1 (hu g rfl)]
    exact hgg
theorem Mp.stp {cnt : Nat} {f : Int → Int → Option Value} (h : Mp w mb cnt f) (hst : Stp k w w' v v') (hm : v mb ≠ k) : Mp w' mb cnt f := by
  obtain ⟨D, h1, h2⟩ := h
  have hlt := h1.lt
  obtain ⟨es, clock, hb, r⟩ := h1
  exact ⟨D, ⟨es, clock, (hst.block mb hlt hm).trans hb, r⟩, h2⟩
theorem Pm.stp (h : Pm w v mb L) (hst : Stp k w w' v v') (hm : v mb ≠ k) (hk : k ≠ 0) : Pm w' v' mb L := by
  obtain ⟨f, h1, h2⟩ := h
  refine ⟨f, h1.stp hst hm, fun s p => ?_⟩
  rcases h2 s p with h3 | ⟨r, x, h3, h4, h5⟩
  · exact .inl h3
  · exact .inr ⟨r, x, h3, h4, h5.stp hst hk⟩
theorem Dev.ltd (h : Dev w v k S P B db mb L) : db < w.heap.size := by
  obtain ⟨u, h1, _⟩ := h.cells
  exact (Array.getElem?_eq_some_iff.1 h1).1
theorem Dev.ltm (h : Dev w v k S P B db mb L) : mb < w.heap.size := by
  obtain ⟨f, h1, _⟩ := h.map
  exact h1.lt
theorem Rdv.ltx (h : Rdv w v k S P B xb L) : xb < w.heap.size := by
  obtain ⟨u, Q, h1, _⟩ := h.cells
  exact (Array.getElem?_eq_some_iff.1 h1).1
theorem own_lt {e : TypeId} {size n : Nat} {u : Value} {xs : List Value} (h : w.ownsRow 0 e size u n xs) {g : Nat} (hg : u.ownBlock = some g) : g < w.heap.size := (h.lt g hg).2
/-- another one's doing -/
theorem Dev.other (h : Dev w v k S P B db mb L) (hst : Stp k2 w w' v v') (hne : k ≠ k2) (h0 : k2 ≠ 0) : Dev w' v' k S P B db mb L := by
  have hd := h.ltd
  have hm := h.ltm
  obtain ⟨u, h1, h2, h3⟩ := h.cells
  refine ⟨h.shp, h.ok, hst.fresh, by rw [hst.same _ hd]; exact h.vd, by rw [hst.same _ hm]; exact h.vm, h.ne, ⟨u, ?_, own_stp h2 hst fun g hg => ?_, fun g hg => ?_⟩, h.map.stp hst (by rw [h.vm]; exact hne) h0⟩
  · rw [hst.block db hd (by rw [h.vd]; exact hne)]; exact h1
  · rw [(h3 g hg).1]; exact hne
  · rw [hst.same _ (own_lt h2 hg)]; exact h3 g hg
theorem Rdv.other (h : Rdv w v k S P B xb L) (hst : Stp k2 w w' v v') (hne : k ≠ k2) (h0 : k2 ≠ 0) : Rdv w' v' k S P B xb L := by
  have hd := h.ltx
  obtain ⟨u, Q, h1, hq, h2, h3, h4⟩ := h.cells
  refine ⟨h.shp, h.ok, hst.fresh, by rw [hst.same _ hd]; exact h.vx, ⟨u, Q, ?_, hq, own_stp h2 hst fun g hg => ?_, fun g hg => ?_, fun q hq => (h4 q hq).stp hst h0⟩⟩
  · rw [hst.block xb hd (by rw [h.vx]; exact hne)]; exact h1
  · rw [(h3 g hg).1]; exact hne
  · rw [hst.same _ (own_lt h2 hg)]; exact h3 g hg
/-- new blocks alone, and draws -/
theorem Dev.below (h : Dev w v k S P B db mb L) (hb : Below w.heap.size w w') : Dev w' v k S P B db mb L :=
  h.other (k2 := k + 1) (Stp.below hb h.fr) (by omega) (by omega)
theorem Rdv.below (h : Rdv w v k S P B xb L) (hb : Below w.heap.size w w') : Rdv w' v k S P B xb L :=
  h.other (k2 := k + 1) (Stp.below hb h.fr) (by omega) (by omega)
end
end Go.Proofs.YtndbjdnfibpicaaR
end
section
namespace Go.Proofs.YtndbjdnfibpicaaR
open Go.ChangeShapes Go.WideShapes Go.ChangeAt Go.RowKit Fl
set_option maxRecDepth 100000

/-- steps, each of a colour of K -/
inductive Ms (K : Nat → Prop) : World → (Nat → Nat) → World → (Nat → Nat) → Prop
  | refl {w : World} {v : Nat → Nat} : Ms K w v w v
  | step {k : Nat} {w w1 w' : World} {v v1 v' : Nat → Nat} : Ms K w v w1 v1 → K k → Stp k w1 w' v1 v' → Ms K w v w' v'
section
variable {K : Nat → Prop} {k S P B db mb xb base : Nat} {w w1 w' : World} {v v1 v' : Nat → Nat} {L : List Pg} {x : Value} {l : List UInt8}
theorem Ms.one (h : K k) (hs : Stp k w w' v v') : Ms K w v w' v' := .step .refl h hs
theorem Ms.trans (h : Ms K w v w1 v1) (h2 : Ms K w1 v1 w' v') : Ms K w v w' v' := by
  induction h2 with
  | refl => exact h
  | step _ hk hs ih => exact .step (ih h) hk hs
theorem Ms.mono {K2 : Nat → Prop} (h : Ms K w v w' v') (hK : ∀ k, K k → K2 k) : Ms K2 w v w' v' := by
  induction h with
  | refl => exact .refl
  | step _ hk hs ih => exact .step ih (hK _ hk) hs
theorem Ms.size (h : Ms K w v w' v') : w.heap.size ≤ w'.heap.size := by
  induction h with
  | refl => exact Nat.le_refl _
  | step _ _ hs ih => exact Nat.le_trans ih hs.size
theorem Ms.same (h : Ms K w v w' v') {i : Nat} (hi : i < w.heap.size) : v' i = v i := by
  induction h with
  | refl => rfl
  | step h1 _ hs ih => exact (hs.same i (Nat.lt_of_lt_of_le hi h1.size)).trans (ih hi)
theorem Ms.fresh (h : Ms K w v w' v') (hf : Fr w v) : Fr w' v' := by
  induction h with
  | refl => exact hf
  | step _ _ hs _ => exact hs.fresh
theorem Ms.dev (h : Ms K w v w' v') (hd : Dev w v k S P B db mb L) (hk : ¬ K k) (h0 : ¬ K 0) : Dev w' v' k S P B db mb L := by
  induction h with
  | refl => exact hd
  | step _ hj hs ih => exact (ih hd).other hs (fun e => hk (e ▸ hj)) (fun e => h0 (e ▸ hj))
theorem Ms.rdv (h : Ms K w v w' v') (hd : Rdv w v k S P B xb L) (hk : ¬ K k) (h0 : ¬ K 0) : Rdv w' v' k S P B xb L := by
  induction h with
  | refl => exact hd
  | step _ hj hs ih => exact (ih hd).other hs (fun e => hk (e ▸ hj)) (fun e => h0 (e ▸ hj))
theorem Ms.dt (h : Ms K w v w' v') (hd : Dt w v x l) (h0 : ¬ K 0) : Dt w' v' x l := by
  induction h with
  | refl => exact hd
  | step _ hj hs ih => exact (ih hd).stp hs (fun e => h0 (e ▸ hj))
theorem Ms.zero (h : Ms K w v w' v') (hB : base ≤ w.heap.size) (hv : ∀ i, i < base → v i = 0) : ∀ i, i < base → v' i = 0 := fun i hi => by rw [h.same (by omega)]; exact hv i hi
theorem Ms.belowB (h : Ms K w v w' v') (hB : base ≤ w.heap.size) (hv : ∀ i, i < base → v i = 0) (h0 : ¬ K 0) : Below base w w' := by
  induction h with
  | refl => exact Below.refl _ _
  | step h1 hj hs ih =>
    refine (ih hB hv).trans (hs.toBelow (Nat.le_trans hB h1.size) fun i hi => ?_)
    rw [h1.zero hB hv i hi]
    exact fun e => h0 (e ▸ hj)
/-- a block of another colour lies as it lay -/
theorem Ms.block (h : Ms K w v w' v') {i : Nat} (hi : i < w.heap.size) (hk : ¬ K (v i)) : w'.heap[i]? = w.heap[i]? := by
  induction h with
  | refl => rfl
  | step h1 hj hs ih =>
    refine (hs.block i (Nat.lt_of_lt_of_le hi h1.size) ?_).trans (ih hi hk)
    rw [h1.same hi]
    exact fun e => hk (e ▸ hj)
theorem Ms.cell (h : Ms K w v w' v') {a : Addr} {y : Value} (hc : w.cell? a = some y) (hk : ¬ K (v a.block)) : w'.cell? a = some y :=
  (World.cell?_of_block (h.block (World.block_lt_of_cell? w a hc) hk)).trans hc
end
end Go.Proofs.YtndbjdnfibpicaaR
end
