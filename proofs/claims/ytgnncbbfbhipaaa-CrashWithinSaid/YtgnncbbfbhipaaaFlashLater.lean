/-
  What stays of what was lasting: plain mathematics; three devices side by side.
-/
import Derived.Test.YtgnncbbfbhipaaaFlashRefCopy
import Derived.Test.YtgnncbbfbhipaaaFlashLike
namespace Go.Proofs.Ytgnncbbfbhipaaa
open Go.ChangeShapes Go.WideShapes Go.ChangeAt Go.RowKit Fl
set_option maxRecDepth 100000

/-- the writes among some deeds -/
def later1 (S P B : Nat) (M : List Pg) (d : Dd) : List Pg := if d.kind = 0 then wput S P B M d.seg d.page d.data else M
def later (S P B : Nat) (M : List Pg) (L : List Dd) : List Pg := L.foldl (later1 S P B) M
theorem later_snoc (S P B : Nat) (M : List Pg) (L : List Dd) (d : Dd) : later S P B M (L ++ [d]) = later1 S P B (later S P B M L) d := by simp [later]
theorem wput_length (S P B : Nat) (M : List Pg) (s p : Int) (l : List UInt8) : (wput S P B M s p l).length ≤ M.length + 1 := by
  unfold wput
  have : (put s p l M).length = M.length + 1 := by simp [put]
  split
  · split
    · omega
    · split <;> omega
  · omega
theorem later1_length (S P B : Nat) (M : List Pg) (d : Dd) : (later1 S P B M d).length ≤ M.length + 1 := by
  unfold later1
  have := wput_length S P B M d.seg d.page d.data
  split <;> omega
theorem later_length (S P B : Nat) (L : List Dd) : ∀ M : List Pg, (later S P B M L).length ≤ M.length + L.length := by
  induction L with
  | nil => intro M; simp [later]
  | cons d L ih =>
    intro M
    have h1 := ih (later1 S P B M d)
    have h2 := later1_length S P B M d
    unfold later at h1 ⊢
    simp only [List.foldl_cons, List.length_cons]
    omega
theorem mem_wput {S P B : Nat} {M : List Pg} {q : Pg} (h : q ∈ M) (s p : Int) (l : List UInt8) : q ∈ wput S P B M s p l := by
  unfold wput put
  split
  · split
    · exact h
    · split
      · exact h
      · exact List.mem_append_left _ h
  · exact h
theorem mem_later1 {S P B : Nat} {M : List Pg} {q : Pg} (h : q ∈ M) (d : Dd) : q ∈ later1 S P B M d := by
  unfold later1
  split
  · exact mem_wput h _ _ _
  · exact h
theorem mem_later {S P B : Nat} {q : Pg} (L : List Dd) : ∀ {M : List Pg}, q ∈ M → q ∈ later S P B M L := by
  induction L with
  | nil => intro M h; exact h
  | cons d L ih => intro M h; exact ih (mem_later1 h d)
theorem mem_crash {q : Pg} (hq : q.dirty = false) (f : Nat → Nat) : ∀ (M : List Pg) (i : Nat), q ∈ M → q ∈ crash f i M := by
  intro M
  induction M with
  | nil => intro i h; cases h
  | cons x M ih =>
    intro i h
    unfold crash
    rcases List.mem_cons.1 h with rfl | h
    · rw [hq]
      simp
    · split
      · split
        · exact ih _ h
        · exact List.mem_cons_of_mem _ (ih _ h)
      · exact List.mem_cons_of_mem _ (ih _ h)
theorem mem_sync {q : Pg} {M : List Pg} (h : q ∈ sync M) : q.dirty = false := by
  unfold sync at h
  obtain ⟨x, -, rfl⟩ := List.mem_map.1 h
  rfl
/-- what was lasting stays -/
theorem stays {S P B : Nat} {M N : List Pg} {L : List Dd} {f : Nat → Nat} (hN : N = crash f 0 (later S P B (sync M) L)) (hok : Ok S P B N) {q : Pg} (hq : q ∈ sync M) : lk N q.seg q.page = some q.raw ∧ In S P B q := by
  have h1 : q ∈ N := by rw [hN]; exact mem_crash (mem_sync hq) f _ 0 (mem_later L hq)
  exact ⟨lk_mem hok.ap h1, hok.rng q h1⟩

/-- both devices, and a third that was laid by -/
structure Tri (w : World) (v : Nat → Nat) (base S P B db mb xb cb : Nat) (M N : List Pg) : Prop where
  dev : Dev w v 1 S P B db mb M
  rdv : Rdv w v 2 S P B xb M
  safe : Rdv w v 3 S P B cb N
  zero : ∀ i, i < base → v i = 0
  le : base ≤ w.heap.size
section
variable {w w' : World} {v v' : Nat → Nat} {base S P B db mb xb cb : Nat} {M N : List Pg}
theorem Tri.below (h : Tri w v base S P B db mb xb cb M N) (hb : Below w.heap.size w w') : Tri w' v base S P B db mb xb cb M N :=
  ⟨h.dev.below hb, h.rdv.below hb, h.safe.below hb, h.zero, Nat.le_trans h.le hb.size⟩
/-- the program's device has moved -/
theorem Tri.d (h : Tri w v base S P B db mb xb cb M N) (hs : Stp 1 w w' v v') : Rdv w' v' 2 S P B xb M ∧ Rdv w' v' 3 S P B cb N ∧ (∀ i, i < base → v' i = 0) ∧ base ≤ w'.heap.size :=
  ⟨h.rdv.other hs (by omega) (by omega), h.safe.other hs (by omega) (by omega), hs.zero h.le h.zero, Nat.le_trans h.le hs.size⟩
end
end Go.Proofs.Ytgnncbbfbhipaaa
