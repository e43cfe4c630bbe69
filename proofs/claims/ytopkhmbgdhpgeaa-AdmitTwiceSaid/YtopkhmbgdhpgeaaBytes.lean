/-
  A slice of bytes that reads as a list: kept where nothing below a block has turned; cut; made.
-/
import Derived.WalkKit
import Derived.ProofKit
import Derived.OpenShut
import Derived.Below
import Derived.Laws.OwnMore
import Derived.Deep.Draws
import Derived.OwnWalk
namespace Go.Proofs.Ytopkhmbgdhpgeaa
open Go.RowKit

theorem block_of_add (a : Addr) (j : Nat) : (a.add j).block = a.block := by
  unfold Addr.add
  split <;> rfl

/-- n bytes from the address on (which may be none where there are none), all below block B -/
def Bs (w : World) (B : Nat) (A : Option Addr) (n : Nat) (l : List UInt8) : Prop :=
  l.length = n ∧ (0 < n → ∃ b off, A = some ⟨b, off, none⟩ ∧ b < B ∧ ∀ j (h : j < l.length), w.cell? ⟨b, off + j, none⟩ = some (.int .u8 (l[j].toNat : Int)))

section
variable {w w' : World} {B : Nat} {A : Option Addr} {n : Nat} {l : List UInt8}
theorem Bs.len (h : Bs w B A n l) : l.length = n := h.1
theorem Bs.below (h : Bs w B A n l) (hb : Below B w w') : Bs w' B A n l :=
  ⟨h.1, fun hn => by
    obtain ⟨b, off, e, hB, hc⟩ := h.2 hn
    exact ⟨b, off, e, hB, fun j hj => (hb.cell (p := ⟨b, off + j, none⟩) hB).trans (hc j hj)⟩⟩
theorem below_drewN {a : World} (h : Below B a w) (m : Nat) : Below B a (w.drewN m) := ⟨h.os, h.tape, h.output, h.size, h.block⟩
theorem Bs.drewN (h : Bs w B A n l) (m : Nat) : Bs (w.drewN m) B A n l := h
theorem Bs.mono (h : Bs w B A n l) {B' : Nat} (hB : B ≤ B') : Bs w B' A n l :=
  ⟨h.1, fun hn => by
    obtain ⟨b, off, e, hb, hc⟩ := h.2 hn
    exact ⟨b, off, e, by omega, hc⟩⟩
theorem Bs.nil (w : World) (B : Nat) (A : Option Addr) : Bs w B A 0 [] := ⟨rfl, fun h => absurd h (by omega)⟩
/-- the first k of them, the address kept -/
theorem Bs.front (h : Bs w B A n l) {k : Nat} (hk : k ≤ n) : Bs w B A k (l.take k) :=
  ⟨by rw [List.length_take, h.1]; omega, fun h0 => by
    obtain ⟨b, off, e, hB, hc⟩ := h.2 (by omega)
    refine ⟨b, off, e, hB, fun j hj => ?_⟩
    rw [List.length_take] at hj
    rw [List.getElem_take]
    exact hc j (by omega)⟩
/-- all behind the first k of them -/
theorem Bs.back (h : Bs w B A n l) {k cap : Nat} (hk : k ≤ n) (hc : n ≤ cap) : Bs w B (if cap = k then A else A.map (·.add k)) (n - k) (l.drop k) :=
  ⟨by rw [List.length_drop, h.1], fun h0 => by
    obtain ⟨b, off, rfl, hB, hcell⟩ := h.2 (by omega)
    rw [if_neg (by omega)]
    refine ⟨b, off + k, ?_, hB, fun j hj => ?_⟩
    · simp only [Option.map_some, Addr.add]
      split <;> simp_all
    rw [List.length_drop] at hj
    rw [List.getElem_drop, Nat.add_assoc]
    exact hcell (k + j) (by omega)⟩
/-- a row of the call's own -/
def vals (l : List UInt8) : List Value := l.map fun x => .int .u8 (x.toNat : Int)
theorem vals_length (l : List UInt8) : (vals l).length = l.length := by simp [vals]
theorem vals_get (l : List UInt8) (j : Nat) (h : j < l.length) : (vals l)[j]? = some (.int .u8 (l[j].toNat : Int)) := by simp [vals, h]
theorem vals_one (l : List UInt8) : ∀ u ∈ vals l, u.oneCell' = true := by
  intro u hu
  obtain ⟨x, _, rfl⟩ := List.mem_map.1 hu
  rfl
theorem vals_append (l m : List UInt8) : vals l ++ vals m = vals (l ++ m) := by simp [vals]
/-- a block of the call's own that is just these cells -/
theorem Bs.of_block {g off : Nat} {cs : List Value} {t : TypeId} (hg : w.heap[g]? = some (.cells cs.toArray t (0, 0))) (hB : g < B) (hl : l.length = n) (hcs : ∀ j (h : j < l.length), cs[off + j]? = some (.int .u8 (l[j].toNat : Int))) :
    Bs w B (some ⟨g, off, none⟩) n l :=
  ⟨hl, fun _ => ⟨g, off, rfl, hB, fun j hj => by
    rw [cell_of_row w g (off + j) cs.toArray t (0, 0) hg]
    simpa using hcs j hj⟩⟩
/-- what the copy or append of a slice asks: its cells, from its address on -/
theorem Bs.src (h : Bs w B A n l) (h0 : 0 < n) : ∃ ad, A = some ad ∧ ad.block < B ∧ ∀ j v, (vals l)[j]? = some v → w.cell? (ad.add j) = some v := by
  obtain ⟨b, off, rfl, hB, hc⟩ := h.2 h0
  refine ⟨_, rfl, hB, fun j v hv => ?_⟩
  by_cases hj : j < l.length
  · rw [vals_get l j hj] at hv
    injection hv with hv
    subst hv
    have e : (⟨b, off, none⟩ : Addr).add j = ⟨b, off + j, none⟩ := by
      simp only [Addr.add]
      split <;> simp_all
    rw [e]
    exact hc j hj
  · rw [List.getElem?_eq_none (by rw [vals_length]; omega)] at hv
    cases hv
/-- the same, in the words of the law of copy -/
theorem Bs.copies (h : Bs w B A n l) (d : Option Addr) : 0 < (vals l).length → d = d ∧ ∃ ad, A = some ad ∧ ∀ j v, (vals l)[j]? = some v → w.cell? (ad.add j) = some v := by
  intro h0
  obtain ⟨ad, e, _, hc⟩ := h.src (by rw [vals_length, h.1] at h0; exact h0)
  exact ⟨rfl, ad, e, hc⟩
theorem Bs.alloc (h : Bs w B A n l) (hB : B ≤ w.heap.size) (o : Obj) : Bs (w.alloc o) B A n l := h.below ((Below.refl B w).alloc hB o)
end
/-- a block that is known whole: just these bytes (T: the number of the type of its cells) -/
def Row (T : TypeId) (w : World) (g : Nat) (L : List UInt8) : Prop := w.heap[g]? = some (.cells (vals L).toArray T (0, 0))
section
variable {w w' : World} {T : TypeId} {g : Nat} {L : List UInt8}
theorem Row.lt (h : Row T w g L) : g < w.heap.size := by
  rcases Nat.lt_or_ge g w.heap.size with hlt | hge
  · exact hlt
  · unfold Row at h
    rw [Array.getElem?_eq_none hge] at h
    cases h
theorem Row.cell (h : Row T w g L) {j : Nat} (hj : j < L.length) : w.cell? ⟨g, j, none⟩ = some (.int .u8 (L[j].toNat : Int)) := by
  rw [cell_of_row w g j (vals L).toArray T (0, 0) h]
  simpa using vals_get L j hj
theorem Row.frozen (h : Row T w g L) (j : Nat) : w.frozen? ⟨g, j, none⟩ = false := by
  unfold Row at h
  simp [World.frozen?, h]
theorem Row.drewN (h : Row T w g L) (m : Nat) : Row T (w.drewN m) g L := h
theorem Row.below {B : Nat} (h : Row T w g L) (hb : Below B w w') (hg : g < B) : Row T w' g L := (hb.block g hg).trans h
theorem Row.far (h : Row T w g L) {p : Addr} (hp : g ≠ p.block) (u : Value) : Row T (w.setCell p u) g L := (Below.heap_setCell w p u g hp).trans h
theorem vals_set (L : List UInt8) (j : Nat) (x : UInt8) : (vals L).set j (.int .u8 (x.toNat : Int)) = vals (L.set j x) := by simp [vals, List.map_set]
theorem Row.put (h : Row T w g L) (j : Nat) (x : UInt8) : Row T (w.setCell ⟨g, j, none⟩ (.int .u8 (x.toNat : Int))) g (L.set j x) := by
  have e : (vals L).toArray.setIfInBounds j (.int .u8 (x.toNat : Int)) = (vals (L.set j x)).toArray := by
    rw [← vals_set]
    simp
  unfold Row at h ⊢
  rw [← e]
  simp [World.setCell, Array.getElem?_modify, h]
theorem Row.bs (h : Row T w g L) {B : Nat} (hB : g < B) : Bs w B (some ⟨g, 0, none⟩) L.length L :=
  ⟨rfl, fun _ => ⟨g, 0, rfl, hB, fun j hj => by rw [Nat.zero_add]; exact h.cell hj⟩⟩
theorem Row.new (w : World) (T : TypeId) (L : List UInt8) : Row T (w.alloc (.cells (vals L).toArray T)) w.heap.size L := heap_alloc_new w _
end
theorem take_put {L M : List UInt8} {k : Nat} {x : UInt8} (hk : k < L.length) (h : L.take k = M) : (L.set k x).take (k + 1) = M ++ [x] := by
  rw [List.take_succ_eq_append_getElem (by simpa using hk), List.take_set_of_le (Nat.le_refl _), h]
  simp
end Go.Proofs.Ytopkhmbgdhpgeaa
