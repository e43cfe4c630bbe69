/-
  A map as a value: its words; held against another one; in a block of its own.
-/
import Derived.Test.YtcmhodimkpkmbaaDoorChecked
import Derived.Test.YtcmhodimkpkmbaaDoorBitWords
import Derived.Test.YtcmhodimkpkmbaaDoorVals
import Derived.Deep.MidRow
import Derived.Lib.Hide
import Derived.IntWalk
import Derived.Outline
namespace Go.Proofs.YtcmhodimkpkmbaaDoor
open Go.ChangeShapes Go.WideShapes Go.ChangeAt Go.RowKit
set_option maxRecDepth 100000

/-- 65 words as values -/
def u64s (l : List Nat) : List Value := l.map fun (x : Nat) => .int .u64 (x : Int)
theorem u64s_length (l : List Nat) : (u64s l).length = l.length := by simp [u64s]
theorem u64s_get (l : List Nat) (k : Nat) (h : k < l.length) : (u64s l)[k]? = some (.int .u64 (l[k] : Int)) := by simp [u64s, h]
theorem u64s_one (l : List Nat) : ∀ u ∈ u64s l, u.oneCell' = true := by
  intro u hu
  obtain ⟨x, _, rfl⟩ := List.mem_map.1 hu
  rfl
theorem u64s_set (l : List Nat) (k x : Nat) : (u64s l).set k (.int .u64 (x : Int)) = u64s (l.set k x) := by simp [u64s, List.map_set]
/-- the cells of a map that has just these numbers -/
def mapC (s : Nat → Bool) : List Value := u64s (Bm.words s 65)
abbrev mapV (s : Nat → Bool) : Value := .agg (mapC s).toArray
theorem mapC_length (s : Nat → Bool) : (mapC s).length = 65 := by simp [mapC, u64s_length, Bm.words_length]
theorem mapC_get (s : Nat → Bool) (k : Nat) (h : k < 65) : (mapC s)[k]? = some (.int .u64 (Bm.word s k : Int)) := by
  unfold mapC
  rw [u64s_get _ k (by rw [Bm.words_length]; exact h), Bm.words_get]
theorem map_zero (W : World) : (zeroValue 76).run Tryd.prog W = .ok (.agg (mapC fun _ => false).toArray) W := by kernel_rfl
theorem words_size : (Tryd.prog.info? 74).map (·.size) = some 65 := by kernel_rfl
theorem map_size : (Tryd.prog.info? 76).map (·.size) = some 65 := by kernel_rfl
/-- a block that is just a map -/
def MapAt (w : World) (b : Nat) (s : Nat → Bool) : Prop := w.heap[b]? = some (.cells (mapC s).toArray 76 (0, 0))
section
variable {w w' : World} {b : Nat} {s : Nat → Bool}
theorem MapAt.new (w : World) (s : Nat → Bool) : MapAt (w.alloc (.cells (mapC s).toArray 76)) w.heap.size s := heap_alloc_new w _
theorem MapAt.lt (h : MapAt w b s) : b < w.heap.size := by
  rcases Nat.lt_or_ge b w.heap.size with hlt | hge
  · exact hlt
  · unfold MapAt at h
    rw [Array.getElem?_eq_none hge] at h
    cases h
theorem MapAt.cell (h : MapAt w b s) {k : Nat} (hk : k < 65) : w.cell? ⟨b, k, none⟩ = some (.int .u64 (Bm.word s k : Int)) := by
  rw [cell_of_row w b k (mapC s).toArray 76 (0, 0) h]
  simpa using mapC_get s k hk
theorem MapAt.frozen (h : MapAt w b s) (k : Nat) : w.frozen? ⟨b, k, none⟩ = false := by
  unfold MapAt at h
  simp [World.frozen?, h]
theorem MapAt.below {B : Nat} (h : MapAt w b s) (hb : Below B w w') (hB : b < B) : MapAt w' b s := (hb.block b hB).trans h
theorem MapAt.drewN (h : MapAt w b s) (m : Nat) : MapAt (w.drewN m) b s := h
theorem MapAt.range (h : MapAt w b s) : w.rangeAt b 0 (mapC s) := fun j v hj => by
  rw [Nat.zero_add, cell_of_row w b j (mapC s).toArray 76 (0, 0) h]
  simpa using hj
theorem MapAt.there (h : MapAt w b s) : w.there b 0 65 := fun j hj => by
  rw [Nat.zero_add, h.cell hj]
  exact ⟨rfl, h.frozen j⟩
/-- one word of it is another one -/
theorem MapAt.put {t : Nat → Bool} (h : MapAt w b s) (k : Nat) (x : Nat) (hx : x = Bm.word t k) (ht : ∀ j, j ≠ k → Bm.word t j = Bm.word s j) : MapAt (w.setCell ⟨b, k, none⟩ (.int .u64 (x : Int))) b t := by
  have e : (mapC s).toArray.setIfInBounds k (.int .u64 (x : Int)) = (mapC t).toArray := by
    unfold mapC
    rw [List.setIfInBounds_toArray, u64s_set, hx, Bm.words_set s t 65 k ht]
  unfold MapAt at h ⊢
  rw [← e]
  simp [World.setCell, Array.getElem?_modify, h]
theorem MapAt.ext {t : Nat → Bool} (h : MapAt w b s) (e : ∀ x, x < 64 * 65 → s x = t x) : MapAt w b t := by
  unfold MapAt mapC at h ⊢
  rw [← Bm.words_ext e]
  exact h
end
/-- a map, stored over another one: it reads -/
theorem MapAt.stored {w : World} {b : Nat} {s : Nat → Bool} (h : MapAt w b s) (t : Nat → Bool) : (w.setCells b 0 (mapC t)).rangeAt b 0 (mapC t) :=
  World.rangeAt_setCells_same w b 0 (mapC t) (by rw [mapC_length]; exact h.there)
theorem below_setCells {B : Nat} {a : World} : ∀ (vs : List Value) (b o : Nat) (w : World), B ≤ b → Below B a w → Below B a (w.setCells b o vs)
  | [], _, _, _, _, h => h
  | v :: r, b, o, w, hb, h => by
    rw [World.setCells]
    exact below_setCells r b (o + 1) _ hb (h.setCell hb v)
theorem map_under : ∃ d, Tryd.prog.underlying 76 = some d ∧ d.isRow = true := ⟨_, Tryd.underlying76, rfl⟩
theorem wrap_bit {j : Nat} (hj : j < 64) : IntKind.u64.wrap ((2 : Int) ^ j) = ((2 ^ j : Nat) : Int) := by
  have hlt : 2 ^ j < 2 ^ 64 := Nat.pow_lt_pow_right (by omega) hj
  have e : (2 : Int) ^ j = ((2 ^ j : Nat) : Int) := (Int.natCast_pow 2 j).symm
  rw [e]
  generalize 2 ^ j = y at hlt
  exact IntWalk.u64_in _ (by omega)
theorem mapC_set {s t : Nat → Bool} {k x : Nat} (hx : x = Bm.word t k) (ht : ∀ j, j ≠ k → Bm.word t j = Bm.word s j) : (mapC s).set k (.int .u64 (x : Int)) = mapC t := by
  unfold mapC
  rw [u64s_set, hx, Bm.words_set s t 65 k ht]
/-- a word of an array of words -/
theorem map_index (s : Nat → Bool) (k : Nat) (hk : k < 65) (W : World) : (Instr.index 74 (.agg (mapC s).toArray) (.int .i64 (k : Int))).run Tryd.prog W = .ok (.int .u64 (Bm.word s k : Int)) W := by
  have h1 : (0 : Int) ≤ (k : Int) ∧ (k : Int) < ((65 : Nat) : Int) := by omega
  have h2 : (mapC s)[k]? = some (.int .u64 (Bm.word s k : Int)) := mapC_get s k hk
  have hs : ∀ w, (sizeOf 73).run Tryd.prog w = .ok 1 w := fun w => by kernel_rfl
  simp [Instr.index, run_underlying Tryd.underlying74, run_underlying Tryd.underlying73, asIntOf, h1, h2, hs, part, isAgg, go_sem]
  intro h3
  omega
theorem mapV_ext {s t : Nat → Bool} (e : ∀ x, x < 64 * 65 → s x = t x) : mapV s = mapV t := by
  unfold mapV mapC
  rw [Bm.words_ext e]
end Go.Proofs.YtcmhodimkpkmbaaDoor
