/-
  Memory of the law's own beside three devices.
-/
import Derived.Test.YtgipbamobpmbcaaFlashCopy
import Derived.Test.YtgipbamobpmbcaaFlashDoesW
namespace Go.Proofs.Ytgipbamobpmbcaa
open Go.ChangeShapes Go.WideShapes Go.ChangeAt Go.RowKit Fl

/-- both devices, and a copy of the first -/
structure Own3 (w : World) (v : Nat → Nat) (base S P B db mb xb cb cm : Nat) (M N : List Pg) : Prop where
  dev : Dev w v 1 S P B db mb M
  rdv : Rdv w v 2 S P B xb N
  cpy : Dev w v 4 S P B cb cm N
  zero : ∀ i, i < base → v i = 0
  le : base ≤ w.heap.size
/-- block g has n bytes in its first cells, which may be written -/
def Wr (w : World) (g n : Nat) : Prop := ∃ cs T, w.heap[g]? = some (.cells cs T (0, 0)) ∧ ∀ j, j < n → ∃ x : Int, cs[j]? = some (.int .u8 x)
/-- bytes of the law's own -/
def Mine (w : World) (v : Nat → Nat) (A : Option Addr) (n : Nat) : Prop := 0 < n → ∃ g, A = some ⟨g, 0, none⟩ ∧ v g = 5 ∧ Wr w g n
section
variable {w w' : World} {v v' : Nat → Nat} {base S P B db mb xb cb cm g n k : Nat} {M N : List Pg} {A : Option Addr}
theorem Own3.other (h : Own3 w v base S P B db mb xb cb cm M N) (hs : Stp k w w' v v') (h0 : k ≠ 0) (h1 : k ≠ 1) (h2 : k ≠ 2) (h4 : k ≠ 4) : Own3 w' v' base S P B db mb xb cb cm M N :=
  ⟨h.dev.other hs (Ne.symm h1) h0, h.rdv.other hs (Ne.symm h2) h0, h.cpy.other hs (Ne.symm h4) h0, hs.zero h.le h.zero, Nat.le_trans h.le hs.size⟩
theorem Own3.below (h : Own3 w v base S P B db mb xb cb cm M N) (hb : Below w.heap.size w w') : Own3 w' v base S P B db mb xb cb cm M N :=
  h.other (k := 5) (Stp.below hb h.dev.fr) (by omega) (by omega) (by omega) (by omega)
theorem Own3.d (h : Own3 w v base S P B db mb xb cb cm M N) (hs : Stp 1 w w' v v') {M' : List Pg} (hd : Dev w' v' 1 S P B db mb M') : Own3 w' v' base S P B db mb xb cb cm M' N :=
  ⟨hd, h.rdv.other hs (by omega) (by omega), h.cpy.other hs (by omega) (by omega), hs.zero h.le h.zero, Nat.le_trans h.le hs.size⟩
theorem Wr.lt (h : Wr w g n) : g < w.heap.size := by
  obtain ⟨cs, T, hb, _⟩ := h
  exact (Array.getElem?_eq_some_iff.1 hb).1
theorem Wr.at_ (h : Wr w g n) {j : Nat} (hj : j < n) : (∃ x : Int, w.cell? ⟨g, j, none⟩ = some (.int .u8 x)) ∧ w.frozen? ⟨g, j, none⟩ = false := by
  obtain ⟨cs, T, hb, hx⟩ := h
  obtain ⟨x, hx⟩ := hx j hj
  exact ⟨⟨x, by simp [World.cell?, hb, hx]⟩, by simp [World.frozen?, hb]⟩
theorem Wr.set (h : Wr w g n) (i : Nat) (y : Int) : Wr (w.setCell ⟨g, i, none⟩ (.int .u8 y)) g n := by
  obtain ⟨cs, T, hb, hx⟩ := h
  refine ⟨cs.setIfInBounds i (.int .u8 y), T, by simp [World.setCell, Array.getElem?_modify, hb], fun j hj => ?_⟩
  obtain ⟨x, hx⟩ := hx j hj
  have hjl := (Array.getElem?_eq_some_iff.1 hx).1
  rw [Array.getElem?_setIfInBounds]
  by_cases e : i = j
  · subst e
    exact ⟨y, by simp [hjl]⟩
  · exact ⟨x, by simp [e, hx]⟩
theorem Wr.stp (h : Wr w g n) (hs : Stp k w w' v v') (hk : v g ≠ k) : Wr w' g n := by
  have hl := h.lt
  obtain ⟨cs, T, hb, hx⟩ := h
  exact ⟨cs, T, (hs.block g hl hk).trans hb, hx⟩
theorem Wr.row {T : TypeId} {L : List UInt8} (h : Row T w g L) : Wr w g L.length :=
  ⟨_, T, h, fun j hj => ⟨_, by rw [List.getElem?_toArray]; exact (vals_get L j hj)⟩⟩
theorem Wr.own {b e : Nat} {L : List UInt8} {c : Nat} (h : w.ownsRow b e 1 (.slice (some ⟨g, 0, none⟩) n c) n (vals L)) : Wr w g n := by
  have hl : L.length = n := by have := h.1; rw [vals_length] at this; omega
  have hc := fun j hj => h.cellAt j hj
  rcases h.2 with ⟨h1, _⟩ | ⟨g', cap, cur, h1, _, hg, _⟩
  · cases h1
  · injection h1 with h1
    injection h1 with h1
    injection h1 with h1
    subst h1
    refine ⟨cur, e, hg, fun j hj => ⟨((L[j]'(by omega)).toNat : Int), ?_⟩⟩
    have h2 := hc j (by omega)
    rw [vals_get L j (by omega)] at h2
    simpa [World.cell?, hg] using h2
theorem Mine.stp (h : Mine w v A n) (hs : Stp k w w' v v') (hk : k ≠ 5) : Mine w' v' A n := fun h0 => by
  obtain ⟨g, e, hv, hw⟩ := h h0
  exact ⟨g, e, by rw [hs.same _ hw.lt]; exact hv, hw.stp hs (by rw [hv]; exact Ne.symm hk)⟩
/-- one of its bytes is written -/
theorem Own3.poke (h : Own3 w v base S P B db mb xb cb cm M N) (hv : v g = 5) (hw : Wr w g n) (i : Nat) (y : Int) :
    Own3 (w.setCell ⟨g, i, none⟩ (.int .u8 y)) v base S P B db mb xb cb cm M N ∧ Mine (w.setCell ⟨g, i, none⟩ (.int .u8 y)) v (some ⟨g, 0, none⟩) n ∧ Below base w (w.setCell ⟨g, i, none⟩ (.int .u8 y)) := by
  have hs : Stp 5 w (w.setCell ⟨g, i, none⟩ (.int .u8 y)) v v := Stp.setCell (a := ⟨g, i, none⟩) hv _ h.dev.fr
  exact ⟨h.other hs (by omega) (by omega) (by omega) (by omega), fun _ => ⟨g, rfl, hv, hw.set i y⟩, hs.baseB h.zero h.le (by omega)⟩
/-- what a read gives, whatever is read -/
def ReadGen (w : World) (e : Ending) (w' : World) : Prop :=
  ∃ A n c e0, e = .returned (.tuple #[.slice A n c, .int .i64 e0]) ∧ n ≤ 256 ∧ (n = 0 → A = none) ∧ (0 < n → ∃ g, A = some ⟨g, 0, none⟩ ∧ w.heap.size ≤ g ∧ Wr w' g n) ∧ Below w.heap.size w w'
theorem read_gen (h : Dev w v k S P B db mb M) (s p : Int) (hs : W64 s) (hp : W64 p) : Calls Try.prog 20 #[.pointer (some ⟨db, 0, none⟩), .int .i64 s, .int .i64 p] w (ReadGen w) := by
  by_cases hin : 0 ≤ s ∧ s < S ∧ 0 ≤ p ∧ p < P
  · refine (read_in h s p hs hp hin).mono ?_
    rintro e w' ⟨g, rfl, hg, hrow, hb⟩
    have hw := Wr.row hrow
    rw [full_length] at hw
    exact ⟨_, B, B, 0, rfl, h.shp.b2, fun e => absurd e (by have := h.shp.b1; omega), fun _ => ⟨g, rfl, hg, hw⟩, hb⟩
  · refine (read_out h s p hin).mono ?_
    rintro e w' ⟨rfl, hb⟩
    exact ⟨none, 0, 0, 6, rfl, by omega, fun _ => rfl, fun h0 => absurd h0 (by omega), hb⟩
/-- bytes that are new are the law's own -/
theorem Own3.claim (h : Own3 w v base S P B db mb xb cb cm M N) (hb : Below w.heap.size w w') {c : Nat} (hn : ∀ g, (Value.slice A n c).ownBlock = some g → w.heap.size ≤ g ∧ g < w'.heap.size) (hw : 0 < n → ∃ g, A = some ⟨g, 0, none⟩ ∧ Wr w' g n) :
    Own3 w' (pl v (.slice A n c) 5) base S P B db mb xb cb cm M N ∧ Mine w' (pl v (.slice A n c) 5) A n ∧ ∀ i, i < w.heap.size → (pl v (.slice A n c) 5) i = v i := by
  have hs0 : Stp 5 w w' v v := Stp.below hb h.dev.fr
  have hs : Stp 5 w w' v (pl v (.slice A n c) 5) := by
    cases hu : (Value.slice A n c).ownBlock with
    | none => rw [pl_none hu]; exact hs0
    | some g => rw [pl_paint hu]; exact hs0.paint 5 (hn g hu).1 (hn g hu).2
  refine ⟨h.other hs (by omega) (by omega) (by omega) (by omega), fun h0 => ?_, fun i hi => hs.same i hi⟩
  obtain ⟨g, rfl, hg⟩ := hw h0
  exact ⟨g, rfl, pl_own rfl, hg⟩
end
end Go.Proofs.Ytgipbamobpmbcaa
