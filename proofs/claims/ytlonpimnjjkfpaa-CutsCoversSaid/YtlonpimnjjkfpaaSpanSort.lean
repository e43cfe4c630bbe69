/-
  slices.SortFunc at spans, by where they begin: onto a row of the call's own.
-/
import Derived.Test.YtlonpimnjjkfpaaSortShelf
import Derived.Test.YtlonpimnjjkfpaaPairs
import Derived.Shelf.SlSortCmp.NoneTotal
import Derived.Lib.Small
import Derived.Lib.Walk
namespace Go.Proofs.Ytlonpimnjjkfpaa
open Go.Shelf Go.RowKit

theorem isNaN_any (x : Int) (w : World) : Calls Try.prog 32 #[.int .i64 x] w fun e w' => e = .returned (.bool false) ∧ w' = w := by
  go_enter Try.func32, Try.ntmps32
  go_wp2
  go_ret
  exact ⟨by simp, rfl⟩
set_option maxHeartbeats 1000000 in
theorem compare_any (x y : Int) (w : World) : Calls Try.prog 29 #[.int .i64 x, .int .i64 y] w fun e w' => e = .returned (.int .i64 (Lib.compareInt x y)) ∧ w' = w := by
  go_enter Try.func29, Try.ntmps29
  go_wp2_with (go_at_call 32; refine (isNaN_any _ _).mono ?_; rintro e w' ⟨rfl, rfl⟩)
  all_goals (go_ret; refine ⟨?_, rfl⟩; unfold Lib.compareInt; (repeat' split) <;> first | rfl | (exfalso; omega))
/-- the closure: two blocks are laid -/
theorem byFrom_any (x y : Int × Int) (W : World) : Calls Try.prog 28 #[.agg #[.int .i64 x.1, .int .i64 x.2], .agg #[.int .i64 y.1, .int .i64 y.2]] W fun e w' =>
    e = .returned (.int .i64 (Lib.compareInt x.1 y.1)) ∧ ∃ q os', w' = Sort.grow (W.drewN q) os' := by
  have hcon := fun W' => compare_any x.1 y.1 W'
  generalize Lib.compareInt x.1 y.1 = r at hcon ⊢
  go_enter Try.func28, Try.ntmps28
  go_wp2_with (go_at_call 29; refine (hcon _).mono ?_; rintro e w' ⟨rfl, rfl⟩)
  go_ret
  exact ⟨rfl, 0, _, by rw [Sort.alloc_eq_grow, Sort.alloc_eq_grow, Sort.grow_grow]; rfl⟩

theorem lt_from (x y : Int × Int) : ltOf (fun x y : Int × Int => Lib.compareInt x.1 y.1) x y = decide (x.1 < y.1) := by
  unfold ltOf Lib.compareInt
  by_cases h1 : x.1 < y.1
  · simp [h1]
  · by_cases h2 : y.1 < x.1 <;> simp [h1, h2]
theorem swo_from : Sort.SWO (ltOf fun x y : Int × Int => Lib.compareInt x.1 y.1) where
  irrefl x := by rw [lt_from]; simp
  trans x y z h1 h2 := by rw [lt_from] at *; simp at *; omega
  ntrans x y z h1 h2 := by rw [lt_from] at *; simp at *; omega

theorem below_sorted {base : Nat} {w : World} {blk n : Nat} {d : Array (Int × Int)} {os : Array Obj} (h : base ≤ blk) (hb : base ≤ w.heap.size) : Below base w (sortWorldK cells2 2 w blk 0 n d os) := by
  refine ⟨rfl, rfl, rfl, ?_, fun k hk => ?_⟩
  · unfold sortWorldK
    rw [Sort.size_grow, Sort.size_putRowK]
    show w.heap.size ≤ w.heap.size + _
    omega
  · unfold sortWorldK
    rw [Sort.heap_grow_old _ _ (by rw [Sort.size_putRowK]; show k < w.heap.size; omega)]
    unfold Sort.putRowK Sort.putRow Sort.mapBlock
    show (w.heap.modify blk _)[k]? = w.heap[k]?
    rw [Array.getElem?_modify, if_neg (by omega)]

/-- what a row becomes: the same spans, by where they begin -/
def SortTo (v : Value) (L : List (Int × Int)) (base : Nat) (w : World) (e : Ending) (w' : World) : Prop :=
  e = .returned (.tuple #[]) ∧ ∃ A c D, v = .slice A D.length c ∧ D.Perm L ∧ D.Pairwise (fun x y => x.1 ≤ y.1) ∧ Sps w' w'.heap.size A D.length D ∧ D.length ≤ c ∧ Below base w w'
theorem sort_own (v : Value) (L : List (Int × Int)) (base : Nat) (w : World) (h : Own2 w base v L) (hn : L.length ≤ 2000000) (hb : base ≤ w.heap.size) :
    Calls Try.prog 27 #[v, .func (.func 28) #[] #[]] w (SortTo v L base w) := by
  rcases h.parts with ⟨rfl, rfl⟩ | ⟨g, c, rfl, hbg, hg, hc, hx⟩
  · have hcon := AnyF.slices_SortFunc_none Try.sortSpan none 0 (.func (.func 28) #[] #[]) w
    change Calls Try.prog 27 _ _ _ at hcon
    refine hcon.mono ?_
    rintro e w' ⟨rfl, rfl⟩
    exact ⟨rfl, none, 0, [], rfl, List.Perm.refl _, List.Pairwise.nil, Sps.nil _ _ _, Nat.le_refl _, Below.refl _ _⟩
  · have eg : ∀ args w, (callFunc 28 args).run Try.prog w = .ok (.enter 28 args) w := enters_of Try.func28 (by kernel_rfl) rfl
    have hH : Sort.HoldsK cells2 2 w g 0 L.toArray := by
      intro j hj
      rw [Sort.size_flatK] at hj
      have hj1 : j / 2 < L.length := by
        have : L.toArray.size = L.length := by simp
        omega
      obtain ⟨x1, x2, f1, f2⟩ := hx (j / 2) hj1
      rw [Sort.get_flatK _ _ _ _ hj, Nat.zero_add]
      have e1 : L.toArray[j / 2]! = L[j / 2] := by simp [hj1]
      rw [e1]
      rcases Nat.mod_two_eq_zero_or_one j with hm | hm
      · rw [show j / 2 * 2 = j by omega] at x1 f1
        rw [hm]
        exact ⟨x1, f1⟩
      · rw [show j / 2 * 2 + 1 = j by omega] at x2 f2
        rw [hm]
        exact ⟨x2, f2⟩
    have hcon := AnyQ.slices_SortFunc Try.sortSpan 2 Try.isAgg23 Try.sizeOf23 cells2 (fun _ => rfl) (fun x v hv => by simp [cells2] at hv; rcases hv with rfl | rfl <;> rfl)
      (fun x y : Int × Int => Lib.compareInt x.1 y.1) swo_from 28 #[] g 0 c L.toArray w eg (fun _ _ _ _ x y => byFrom_any x y _) hH hg (by simp; omega)
    change Calls Try.prog 27 _ _ _ at hcon
    refine hcon.mono ?_
    rintro e w' ⟨rfl, d, n, os, hp, hs, rfl⟩
    have hsz : d.size = L.length := by simpa using hp.1
    have hperm : d.toList.Perm L := by
      have := hp.2.2
      have e : List.take d.size L = L := List.take_of_length_le (by omega)
      simpa [← hsz, e] using this
    have hK : Sort.HoldsK cells2 2 (sortWorldK cells2 2 w g 0 n d os) g 0 d := holdsK_sortWorldK_c cells2 2 w g 0 L.toArray d n os hH hg (by simpa using hsz)
    refine ⟨rfl, _, c, d.toList, by simp [hsz], hperm, ?_, ⟨rfl, fun _ => ⟨g, 0, rfl, ?_, fun j hj => ?_⟩⟩, by simp [hsz]; exact hc, below_sorted hbg hb⟩
    · rw [List.pairwise_iff_getElem]
      intro i j hi hj hij
      have := hs i j (Nat.zero_le _) hij (by simp at hj ⊢; omega)
      rw [lt_from] at this
      have h1 := of_decide_eq_false this
      have hi' : i < d.size := by simpa using hi
      have hj' : j < d.size := by simpa using hj
      rw [getElem!_pos d i hi', getElem!_pos d j hj'] at h1
      simp only [Array.getElem_toList]
      omega
    · have := (below_sorted (n := n) (d := d) (os := os) (Nat.zero_le g) (Nat.zero_le w.heap.size)).size
      unfold sortWorldK
      rw [Sort.size_grow, Sort.size_putRowK]
      show g < w.heap.size + _
      omega
    · have hj' : j < d.size := by simpa using hj
      have k0 := (hK.cell hj' (show 0 < 2 by omega)).1
      have k1 := (hK.cell hj' (show 1 < 2 by omega)).1
      rw [getElem!_pos d j hj'] at k0 k1
      simp only [Array.getElem_toList]
      exact ⟨k0, k1⟩
end Go.Proofs.Ytlonpimnjjkfpaa
