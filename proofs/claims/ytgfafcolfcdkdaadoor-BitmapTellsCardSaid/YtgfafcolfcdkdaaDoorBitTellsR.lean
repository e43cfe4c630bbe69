/-
  The statement on one map: the contracts of the landed program, and the walk.
-/
import Derived.Test.YtgfafcolfcdkdaaDoorBitAwake
import Derived.Test.YtgfafcolfcdkdaaDoorBitTwoR
import Derived.Test.YtgfafcolfcdkdaaDoorBitTellsL
import Derived.Test.YtgfafcolfcdkdaaDoorBitTellsW
namespace Go.Proofs.YtgfafcolfcdkdaaDoor
open Go.ChangeShapes Go.WideShapes Go.ChangeAt Go.RowKit Go.Shelf
set_option maxRecDepth 100000

theorem all_set (l : List Int) (B : Nat) (W : World) (ht : Tab64 W) (hg : 0 < B) : Calls Tryd.prog 9 #[mapV (setOf l)] W fun e w' => ∃ lb p, e = .returned (.func (.func 23) #[] lb) ∧
    Its Tryd.prog 23 lb (fun m => #[.int .i64 (nthS (Bm.srt l 4097) m)]) (Bm.srt l 4097).length p w' ∧ (∀ i, p i → (i < B ∨ W.heap.size ≤ i) ∧ i < w'.heap.size) ∧ Below W.heap.size W w' := by
  refine (all_any (setOf l) W).mono ?_
  rintro e w' ⟨rfl, rfl⟩
  have hta := ht.at
  have hb : Below W.heap.size W (W.alloc (.cells (mapC (setOf l)).toArray 27)) := (Below.refl _ W).alloc (Nat.le_refl _) _
  have hi := (all_its (setOf l) W.heap.size (W.alloc (.cells (mapC (setOf l)).toArray 27)) (MapAt.new W _) (hta.below hb)).its
  rw [← Bm.lst_length, lst_setOf] at hi
  refine ⟨_, _, rfl, hi, ?_, hb⟩
  rintro i rfl
  exact ⟨.inl hg, by have := hta.lt; have := hb.size; omega⟩
/-- with a number, and without one -/
theorem has_ins (l : List Int) (i : Int) : hasI (insI (setOf l) i) i = mayB i := by
  unfold hasI insI
  cases h : mayB i
  · rfl
  · simp [Bm.ins]
theorem has_del (l : List Int) (i : Int) : hasI (delI (setOf l) i) i = false := by
  unfold hasI delI
  cases h : mayB i
  · rfl
  · simp [Bm.del]
theorem has_back (l : List Int) (i : Int) : hasI (insI (delI (setOf l) i) i) i = mayB i := by
  unfold hasI insI
  cases h : mayB i
  · rfl
  · simp [Bm.ins]
theorem has_set (l : List Int) (i : Int) : hasI (setOf l) i = (mayB i && decide (i ∈ l)) := by
  unfold hasI
  cases h : mayB i
  · rfl
  · have h2 : 0 ≤ i ∧ i ≤ 4096 := of_decide_eq_true h
    rw [setOf_eq, decide_eq_true (by omega : i.toNat ≤ 4096), Int.toNat_of_nonneg h2.1]
    simp
theorem del_no (l : List Int) (i : Int) (h : hasI (setOf l) i = false) : mapC (delI (setOf l) i) = mapC (setOf l) := by
  congr 1
  unfold delI
  cases hm : mayB i
  · rfl
  · unfold hasI at h
    rw [hm, Bool.true_and] at h
    funext x
    unfold Bm.del
    rw [if_pos rfl]
    by_cases e : x = i.toNat
    · subst e
      rw [h]
      rfl
    · rw [decide_eq_true e, Bool.and_true]
set_option maxHeartbeats 1000000 in
theorem bitmapTells_walk (A : Option Addr) (n c : Nat) (l : List Int) (i stop : Int) (w : World) (hA : Vs w w.heap.size A n (nums .i64 l)) (_ : n ≤ c) (_ : ∀ z ∈ l, (Lit.int .i64 z).wf = true) (_ : -9223372036854775808 ≤ i) (_ : i ≤ 9223372036854775807) (_ : -9223372036854775808 ≤ stop) (_ : stop ≤ 9223372036854775807) (ht : Tab64 w) :
    Calls Tryd.prog 3 #[.slice A n c, .int .i64 i, .int .i64 stop] w fun e w' => e = .returned (.bool true) ∧ Below w.heap.size w w' := by
  have ka := fun W h => awake_any W (ht.on h)
  by_cases hn : 60 < n
  · exact tells_long hn ka
  have hll : l.length = n := by have := hA.1; rwa [nums_length] at this
  have kh1 := fun W => has_any (setOf l) i W
  have kh2 := fun W => has_any (insI (setOf l) i) i W
  rw [has_ins] at kh2
  have kh3 := fun W => has_any (delI (setOf l) i) i W
  rw [has_del] at kh3
  have kh4 := fun W => has_any (insI (delI (setOf l) i) i) i W
  rw [has_back] at kh4
  have kof2 : ∀ W A' n' c', Vs W W.heap.size A' n' (nums .i64 (l ++ [i])) → Calls Tryd.prog 7 #[.slice A' n' c'] W fun e w' => e = .returned (.agg (mapC (insI (setOf l) i)).toArray) ∧ Below W.heap.size W w' := by
    intro W A' n' c' h
    have h1 := h.1
    rw [nums_length, List.length_append, hll, List.length_singleton] at h1
    have h2 := of_any A' n' c' W.heap.size (l ++ [i]) W h (Nat.le_refl _) (by omega)
    rw [setOf_snoc] at h2
    exact h2
  have he1 := fun W => map_eqlC (insI (setOf l) i) (insI (setOf l) i) W
  rw [sameB_true (fun _ => rfl)] at he1
  have he2 : hasI (setOf l) i = false → ∀ W, (binOp BinOp.eql 27 (.agg (mapC (delI (setOf l) i)).toArray) (.agg (mapC (setOf l)).toArray)).run Tryd.prog W = .ok (.bool true) W := by
    intro h W
    have h2 := map_eqlC (setOf l) (setOf l) W
    rw [sameB_true (fun _ => rfl)] at h2
    rw [del_no l i h]
    exact h2
  have hmay : mayB i = (decide (0 ≤ i) && decide (i ≤ 4096)) := by
    unfold mayB
    by_cases h1 : 0 ≤ i <;> by_cases h2 : i ≤ 4096 <;> simp [h1, h2]
  cases hv : hasI (setOf l) i
  · exact tells_no (cs := mapC (setOf l)) (ci := mapC (insI (setOf l) i)) (cd := mapC (delI (setOf l) i)) (ce := mapC (insI (delI (setOf l) i) i)) (z0 := mapC fun _ => false) hn hA ka
      map_zero (map_infoC _) (by rw [mapC_length, mapC_length]) (by rw [mapC_length]; omega) (u64s_one _)
      (fun W h => of_any A n c w.heap.size l W (hA.below h) h.size (by omega)) 23 all_enters (fun W h => all_set l w.heap.size W (ht.on h) ht.at.lt) (fun W h => list_set l W (ht.on h)) (fun W => len_set l W)
      kh1 (fun W => with_any (setOf l) i W) kh2 (fun W => without_any (setOf l) i W) kh3 kof2 (fun W => with_any (delI (setOf l) i) i W) kh4 he1 he2 _ _ _ rfl rfl rfl hmay (has_set l i) hv
  · exact tells_yes (cs := mapC (setOf l)) (ci := mapC (insI (setOf l) i)) (cd := mapC (delI (setOf l) i)) (ce := mapC (insI (delI (setOf l) i) i)) (z0 := mapC fun _ => false) hn hA ka
      map_zero (map_infoC _) (by rw [mapC_length, mapC_length]) (by rw [mapC_length]; omega) (u64s_one _)
      (fun W h => of_any A n c w.heap.size l W (hA.below h) h.size (by omega)) 23 all_enters (fun W h => all_set l w.heap.size W (ht.on h) ht.at.lt) (fun W h => list_set l W (ht.on h)) (fun W => len_set l W)
      kh1 (fun W => with_any (setOf l) i W) kh2 (fun W => without_any (setOf l) i W) kh3 kof2 (fun W => with_any (delI (setOf l) i) i W) kh4 he1 he2 _ _ _ rfl rfl rfl hmay (has_set l i) hv
end Go.Proofs.YtgfafcolfcdkdaaDoor
