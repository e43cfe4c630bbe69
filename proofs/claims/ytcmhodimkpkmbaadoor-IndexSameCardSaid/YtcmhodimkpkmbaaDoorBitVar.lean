/-
  A map in a variable: stored over another one; its size (over a program of 65 words).
-/
import Derived.Deep.Upon
import Derived.LoopTactic
import Derived.Test.YtcmhodimkpkmbaaDoorBitMap
namespace Go.Proofs.YtcmhodimkpkmbaaDoor
open Go.ChangeShapes Go.WideShapes Go.ChangeAt Go.RowKit
set_option maxRecDepth 100000

/-- a block's cells, all but the first of them stored anew -/
theorem setCells_block (b : Nat) (T : TypeId) (fr : Nat × Nat) : ∀ (vs q p : List Value) (W : World), q.length = vs.length → W.heap[b]? = some (.cells (p ++ q).toArray T fr) → (W.setCells b p.length vs).heap[b]? = some (.cells (p ++ vs).toArray T fr)
  | [], q, p, W, hl, h => by
    obtain rfl : q = [] := List.eq_nil_of_length_eq_zero hl
    exact h
  | v :: vs, [], p, W, hl, h => by simp at hl
  | v :: vs, x :: q, p, W, hl, h => by
    rw [World.setCells]
    have h1 : (W.setCell ⟨b, p.length, none⟩ v).heap[b]? = some (.cells ((p ++ [v]) ++ q).toArray T fr) := by
      simp only [World.setCell, Array.getElem?_modify, if_true, h, Option.map_some]
      simp
    have h2 := setCells_block b T fr vs q (p ++ [v]) _ (by simpa using hl) h1
    rw [List.length_append, List.length_singleton, List.append_assoc, List.singleton_append] at h2
    exact h2
theorem MapAt.over {W : World} {b : Nat} {s : Nat → Bool} (h : MapAt W b s) (t : Nat → Bool) : MapAt (W.setCells b 0 (mapC t)) b t :=
  setCells_block b 76 (0, 0) (mapC t) (mapC s) [] W (by rw [mapC_length, mapC_length]) (by unfold MapAt at h; simpa using h)
theorem MapAt.far {W : World} {b c : Nat} {s : Nat → Bool} (h : MapAt W b s) (hne : b ≠ c) (vs : List Value) (o : Nat) : MapAt (W.setCells c o vs) b s := (World.heap_setCells_other W c o vs h.lt hne).trans h
theorem there_size {W : World} {b : Nat} {s : Nat → Bool} (h : MapAt W b s) (t : Nat → Bool) : W.there b 0 (mapC t).toArray.size := by
  rw [show (mapC t).toArray.size = 65 by simp [mapC_length]]
  exact h.there
theorem map_infoC (s : Nat → Bool) : (Tryd.prog.info? 76).map (·.size) = some (mapC s).length := by rw [map_size, mapC_length]
theorem map_infoA (s : Nat → Bool) : (Tryd.prog.info? 76).map (·.size) = some (mapC s).toArray.size := by rw [map_size]; simp [mapC_length]
theorem mapC_one (s : Nat → Bool) : (mapC s).toArray.all (·.oneCell') = true := all_oneCell_toArray (u64s_one _)
end Go.Proofs.YtcmhodimkpkmbaaDoor
