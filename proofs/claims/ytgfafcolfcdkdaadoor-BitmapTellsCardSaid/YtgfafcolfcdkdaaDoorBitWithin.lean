/-
  Within (over a program of 65 words).
-/
import Derived.Test.YtgfafcolfcdkdaaDoorBitOr
namespace Go.Proofs.YtgfafcolfcdkdaaDoor
open Go.ChangeShapes Go.WideShapes Go.ChangeAt Go.RowKit
set_option maxRecDepth 100000

/-- whether two sets are the same, as '==' of two maps answers -/
def sameB (s t : Nat → Bool) : Bool := Bm.words s 65 == Bm.words t 65
theorem map_eqlC (s t : Nat → Bool) (W : World) : (binOp BinOp.eql 27 (.agg (mapC s).toArray) (.agg (mapC t).toArray)).run Tryd.prog W = .ok (.bool (sameB s t)) W :=
  map_eql (Bm.words s 65) (Bm.words t 65) (Bm.words_length _ _) (Bm.words_length _ _) W
set_option maxHeartbeats 2000000 in
theorem within_any (s t : Nat → Bool) (w : World) : Calls Tryd.prog 19 #[mapV s, mapV t] w fun e w' => e = .returned (.bool (sameB (fun x => s x && t x) s)) ∧ Below w.heap.size w w' := by
  unfold mapV
  have a0 := MapAt.new w s
  have e1 : (w.alloc (.cells (mapC s).toArray 27)).heap.size = w.heap.size + 1 := by simp
  have a1 := MapAt.new (w.alloc (.cells (mapC s).toArray 27)) t
  rw [e1] at a1
  obtain ⟨wz, hwz⟩ : ∃ wz, wz = (w.alloc (.cells (mapC s).toArray 27)).alloc (.cells (mapC t).toArray 27) := ⟨_, rfl⟩
  have hb : Below w.heap.size w wz := by rw [hwz]; exact ((Below.refl _ w).alloc (Nat.le_refl _) _).alloc (by simp) _
  have HA0 : Hid (MapAt wz w.heap.size s) := Lib.hid (by rw [hwz]; exact a0.below ((Below.refl _ _).alloc (Nat.le_refl _) _) a0.lt)
  have HA1 : Hid (MapAt wz (w.heap.size + 1) t) := Lib.hid (by rw [hwz]; exact a1)
  have HB := Lib.hid hb
  have HWZ := Lib.hid hwz
  have ca := fun W => and_any s t W
  have he := fun W => map_eqlC (fun x => s x && t x) s W
  have HI1 := Lib.hid (map_infoC s)
  have HI2 := Lib.hid (map_infoC t)
  have HS : Hid (∀ W, Below wz.heap.size wz W → W.rangeAt w.heap.size 0 (mapC s) ∧ W.rangeAt (w.heap.size + 1) 0 (mapC t)) := Lib.hid fun W h => ⟨(HA0.out.below h HA0.out.lt).range, (HA1.out.below h HA1.out.lt).range⟩
  clear a0 a1 e1 hb hwz HA0 HA1
  unfold mapV at ca
  generalize mapC (fun x => s x && t x) = cd at *
  generalize sameB (fun x => s x && t x) s = q at *
  generalize mapC s = cs at *
  generalize mapC t = ct at *
  go_enter Tryd.func19, Tryd.ntmps19
  go_wp2_with fail
  rw [← HWZ.out]
  have hP := HS.out _ ((Below.refl wz.heap.size wz).drew)
  refine wp_region_noPanic ?_
  try simp only [List.append_eq, List.cons_append, List.nil_append]
  refine wp_region_held_drew (S := (fun W => W.rangeAt w.heap.size 0 cs ∧ W.rangeAt (w.heap.size + 1) 0 ct)) (by kernel_rfl) hP (fun hHeld => ?_)
  refine wpAnyH_take (i := 0) (v := .agg cs.toArray) (List.getElem?_toArray.trans rfl) (by decide +kernel) (by decide +kernel) (by decide +kernel) (fun _ _ _ h => h) ?_ (by assumption) ?_
  · exact yieldsIf_load_mid (by rfl) 27 _ (by rfl) w.heap.size 0 (by rfl) cs _ (fun _ h => h.1) Tryd.underlying27 (by rfl) HI1.out
  simp only [Act.put, List.setIfInBounds_toArray, List.set_cons_zero, List.set_cons_succ]
  refine wpAnyH_take (i := 1) (v := .agg ct.toArray) (List.getElem?_toArray.trans rfl) (by decide +kernel) (by decide +kernel) (by decide +kernel) (fun _ _ _ h => h) ?_ (by assumption) ?_
  · exact yieldsIf_load_mid (by rfl) 27 _ (by rfl) (w.heap.size + 1) 0 (by rfl) ct _ (fun _ h => h.2) Tryd.underlying27 (by rfl) HI2.out
  simp only [Act.put, List.setIfInBounds_toArray, List.set_cons_zero, List.set_cons_succ]
  refine wpAnyH_take (i := 3) (v := .agg cs.toArray) (List.getElem?_toArray.trans rfl) (by decide +kernel) (by decide +kernel) (by decide +kernel) (fun _ _ _ h => h) ?_ (by assumption) ?_
  · exact yieldsIf_load_mid (by rfl) 27 _ (by rfl) w.heap.size 0 (by rfl) cs _ (fun _ h => h.1) Tryd.underlying27 (by rfl) HI1.out
  simp only [Act.put, List.setIfInBounds_toArray, List.set_cons_zero, List.set_cons_succ]
  refine wpAnyH_ready (rs := [2]) (by decide +kernel) (by simp) ?_
  refine AllReadyH.cons (List.getElem?_toArray.trans rfl) (fun K hK => ?_) AllReadyH.nil
  go_simp
  go_at_call 18; (with_reducible refine (ca _).mono ?_); rintro e wn ⟨rfl, hbn⟩
  have HB2 := Lib.hid (((Below.refl wz.heap.size wz).drew).trans hbn)
  have hP2 := HS.out _ HB2.out
  refine hK.out _ _ hP2 (fun hHeld => ?_)
  clear hK K
  refine wpAnyH_take (i := 4) (v := ?_) (List.getElem?_toArray.trans rfl) (by decide +kernel) (by decide +kernel) (by decide +kernel) (fun _ _ _ h => h) (Or.inl ⟨by rfl, ?_⟩) (by assumption) ?_
  case refine_2 => (intro w hSw; (try dsimp only at hSw); clear hSw; go_simp <;> with_reducible rfl)
  simp only [Act.put, List.setIfInBounds_toArray, List.set_cons_zero, List.set_cons_succ]
  refine wpAnyH_take (i := 5) (v := ?_) (List.getElem?_toArray.trans rfl) (by decide +kernel) (by decide +kernel) (by decide +kernel) (fun _ _ _ h => h) (Or.inl ⟨by rfl, ?_⟩) (by assumption) ?_
  case refine_2 => (intro w hSw; (try dsimp only at hSw); clear hSw; go_simp <;> with_reducible rfl)
  simp only [Act.put, List.setIfInBounds_toArray, List.set_cons_zero, List.set_cons_succ]
  refine wpAnyH_done (by decide +kernel) ?_ _
  refine NoPanic.normal ?_
  go_wp2
  go_ret
  exact ⟨rfl, HB.out.trans (HB2.out.mono HB.out.size)⟩
end Go.Proofs.YtgfafcolfcdkdaaDoor
