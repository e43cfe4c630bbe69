/-
  Of (over a program of 65 words).
-/
import Derived.Test.YtgfafcolfcdkdaaDoorBitAny
import Derived.Deep.Upon
import Derived.LoopTactic
namespace Go.Proofs.YtgfafcolfcdkdaaDoor
open Go.ChangeShapes Go.WideShapes Go.ChangeAt Go.RowKit
set_option maxRecDepth 100000

theorem res_of {U : World} {tm : Array Value} {b : Nat} {t : Nat → Bool} (h4 : tm.getD 2 undef = .pointer (some ⟨b, 0, none⟩)) (hr : U.rangeAt b 0 (mapC t)) :
    (results Tryd.f7 tm).run Tryd.prog U = .ok (mapV t) U := by
  have h5 : tm[2]?.getD undef = .pointer (some ⟨b, 0, none⟩) := by simpa using h4
  have hl := run_loadVar_mid (P := Tryd.prog) U b 0 27 (mapC t) _ hr Tryd.underlying27 (by rfl) (by rw [map_size, mapC_length])
  simp [results, Tryd.results7, h5, asAddr, hl, mapV]
/-- a block's cells, all but the first of them stored anew -/
theorem setCells_block (b : Nat) (T : TypeId) (fr : Nat × Nat) : ∀ (vs q p : List Value) (W : World), q.length = vs.length → W.heap[b]? = some (.cells (p ++ q).toArray T fr) → (W.setCells b p.length vs).heap[b]? = some (.cells (p ++ vs).toArray T fr)
  | [], q, p, W, hl, h => by
    obtain rfl : q = [] := List.eq_nil_of_length_eq_zero hl
    exact h
  | v :: vs, [], p, W, hl, h => by simp at hl
  | v :: vs, x :: q, p, W, hl, h => by
    rw [World.setCells]
    have h1 : (W.setCell ⟨b, p.length, none⟩ v).heap[b]? = some (.cells ((p ++ [v]) ++ q).toArray T fr) := by
      simp only [World.setCell, Array.getElem?_modify, if_true, h, Option.map_some]
      simp
    have h2 := setCells_block b T fr vs q (p ++ [v]) _ (by simpa using hl) h1
    rw [List.length_append, List.length_singleton, List.append_assoc, List.singleton_append] at h2
    exact h2
theorem MapAt.over {W : World} {b : Nat} {s : Nat → Bool} (h : MapAt W b s) (t : Nat → Bool) : MapAt (W.setCells b 0 (mapC t)) b t :=
  setCells_block b 27 (0, 0) (mapC t) (mapC s) [] W (by rw [mapC_length, mapC_length]) (by unfold MapAt at h; simpa using h)
theorem MapAt.far {W : World} {b c : Nat} {s : Nat → Bool} (h : MapAt W b s) (hne : b ≠ c) (vs : List Value) (o : Nat) : MapAt (W.setCells c o vs) b s := (World.heap_setCells_other W c o vs h.lt hne).trans h
theorem there_size {W : World} {b : Nat} {s : Nat → Bool} (h : MapAt W b s) (t : Nat → Bool) : W.there b 0 (mapC t).toArray.size := by
  rw [show (mapC t).toArray.size = 65 by simp [mapC_length]]
  exact h.there
theorem map_infoC (s : Nat → Bool) : (Tryd.prog.info? 27).map (·.size) = some (mapC s).length := by rw [map_size, mapC_length]
theorem map_infoA (s : Nat → Bool) : (Tryd.prog.info? 27).map (·.size) = some (mapC s).toArray.size := by rw [map_size]; simp [mapC_length]
theorem mapC_one (s : Nat → Bool) : (mapC s).toArray.all (·.oneCell') = true := all_oneCell_toArray (u64s_one _)
set_option maxHeartbeats 2000000 in
theorem of_any (A : Option Addr) (n c : Nat) (B : Nat) (l : List Int) (w : World) (h : Vs w B A n (nums .i64 l)) (hB : B ≤ w.heap.size) (hn : n ≤ 100000) :
    Calls Tryd.prog 7 #[.slice A n c] w fun e w' => e = .returned (mapV (setOf l)) ∧ Below w.heap.size w w' := by
  have HC := Lib.hid h
  have HBW := Lib.hid hB
  have hz := map_zero
  have h0 := MapAt.new w (fun _ => false)
  have h1 := MapAt.new (w.alloc (.cells (mapC fun _ => false).toArray 27)) (fun _ => false)
  have e1 : (w.alloc (.cells (mapC fun _ => false).toArray 27)).heap.size = w.heap.size + 1 := by simp
  rw [e1] at h1
  have H0 := Lib.hid (h0.below ((Below.refl _ _).alloc (Nat.le_refl _) (.cells (mapC fun _ => false).toArray 27)) h0.lt)
  have H1 := Lib.hid h1
  have HB2 : Hid (Below w.heap.size w ((w.alloc (.cells (mapC fun _ => false).toArray 27)).alloc (.cells (mapC fun _ => false).toArray 27))) := Lib.hid (((Below.refl _ w).alloc (Nat.le_refl _) _).alloc (by simp) _)
  clear h hB h0 h1 e1
  go_enter Tryd.func7, Tryd.ntmps7
  go_wp2
  go_loopw [8] (fun i wr => ∃ k : Nat, k ≤ n ∧ i = .int .i64 k ∧ Hid (MapAt wr w.heap.size fun _ => false) ∧ Hid (MapAt wr (w.heap.size + 1) (setOf (l.take k))) ∧ Hid (Below w.heap.size w wr)) (fun i _ => n - (intOf i).toNat)
  case atStart => exact ⟨0, by omega, rfl, H0, H1, HB2⟩
  case round =>
    obtain ⟨k, hk, rfl, HZ, HM, HB⟩ := hrel
    clear H0 H1 HB2
    by_cases hlt : k < n
    · obtain ⟨b1, o1, rfl, hB1, hc1⟩ := (HC.out.below (HB.out.mono HBW.out)).2 (by omega)
      have hl := HC.out.1
      rw [nums_length] at hl
      have hkl' : k < l.length := by omega
      have e1 := hc1 k (by rw [nums_length]; exact hkl')
      rw [nums_get .i64 l k (by rw [nums_length]; exact hkl') hkl'] at e1
      have HN : Hid (setOf (l.take (k + 1)) = insI (setOf (l.take k)) l[k]) := Lib.hid (by rw [List.take_succ_eq_append_getElem hkl', setOf_snoc])
      generalize l[k] = x at e1 HN
      have cw := fun W => with_any (setOf (l.take k)) x W
      generalize hs : setOf (l.take k) = s at *
      clear hc1 hl hkl' hs
      obtain ⟨d1, hd1⟩ : ∃ d1, d1 = mapC s := ⟨_, rfl⟩
      obtain ⟨d2, hd2⟩ : ∃ d2, d2 = mapC (insI s x) := ⟨_, rfl⟩
      unfold mapV at cw
      rw [← hd1, ← hd2] at cw
      have HD1 := Lib.hid hd1
      have HD2 := Lib.hid hd2
      have HR1 : Hid (wr.rangeAt (w.heap.size + 1) 0 d1) := Lib.hid (by rw [hd1]; exact HM.out.range)
      have HI1 : Hid ((Tryd.prog.info? 27).map (·.size) = some d1.length) := Lib.hid (by rw [hd1]; exact map_infoC s)
      have HI2 : Hid ((Tryd.prog.info? 27).map (·.size) = some d2.toArray.size) := Lib.hid (by rw [hd2]; exact map_infoA _)
      have HO2 : Hid (d2.toArray.all (·.oneCell') = true) := Lib.hid (by rw [hd2]; exact mapC_one _)
      have HS2 : Hid (d2.toArray.size = 65) := Lib.hid (by rw [hd2]; simp [mapC_length])
      clear hd1 hd2 hz
      go_wp2_with (first
        | (refine wpList_load_mid (by rfl) 27 (.tmp 3) (by rfl) (w.heap.size + 1) 0 (by rfl) d1 _ HR1.out Tryd.underlying27 (by rfl) HI1.out ?_)
        | (go_at_call 15; (with_reducible refine (cw _).mono ?_); rintro e w1 ⟨rfl, hb1⟩; have HM1 := Lib.hid (HM.out.below hb1 HM.out.lt); have HZ1 := Lib.hid (HZ.out.below hb1 HZ.out.lt); have HB1 := Lib.hid (HB.out.trans (hb1.mono HB.out.size)); have HT1 : Hid (w1.there (w.heap.size + 1) 0 d2.toArray.size) := Lib.hid (by rw [HS2.out]; exact HM1.out.there); clear hb1 cw)
        | (refine wpList_store_mid (by rfl) 27 (.tmp 3) (.tmp 14) (by rfl) (w.heap.size + 1) 0 d2.toArray (by rfl) (by rfl) HT1.out HI2.out HO2.out ?_))
      go_roundw
      case rel =>
        have a1 := HZ1.out.far (show w.heap.size ≠ w.heap.size + 1 by omega) d2 0
        have a2 := HM1.out.over (insI s x)
        have a3 := below_setCells d2 (w.heap.size + 1) 0 w1 (Nat.le_succ _) HB1.out
        rw [← HD2.out, ← HN.out] at a2
        exact ⟨k + 1, by omega, by go_num, Lib.hid a1, Lib.hid a2, Lib.hid a3⟩
      case measure => simp [intOf]; omega
    · obtain rfl : k = n := by omega
      have HL : Hid (l.take k = l) := Lib.hid (List.take_of_length_le (by have := HC.out.1; rw [nums_length] at this; omega))
      rw [HL.out] at HM
      obtain ⟨s, hs⟩ : ∃ s, s = setOf l := ⟨_, rfl⟩
      rw [← hs] at HM
      have HSL := Lib.hid hs
      obtain ⟨d1, hd1⟩ : ∃ d1, d1 = mapC s := ⟨_, rfl⟩
      have HR1 : Hid (wr.rangeAt (w.heap.size + 1) 0 d1) := Lib.hid (by rw [hd1]; exact HM.out.range)
      have HI1 : Hid ((Tryd.prog.info? 27).map (·.size) = some d1.length) := Lib.hid (by rw [hd1]; exact map_infoC s)
      have HI2 : Hid ((Tryd.prog.info? 27).map (·.size) = some d1.toArray.size) := Lib.hid (by rw [hd1]; exact map_infoA _)
      have HO2 : Hid (d1.toArray.all (·.oneCell') = true) := Lib.hid (by rw [hd1]; exact mapC_one _)
      have HT1 : Hid (wr.there w.heap.size 0 d1.toArray.size) := Lib.hid (by rw [hd1]; exact there_size HZ.out _)
      have HF : Hid (∀ tm : Array Value, tm.getD 2 undef = .pointer (some ⟨w.heap.size, 0, none⟩) → (results Tryd.f7 tm).run Tryd.prog (wr.setCells w.heap.size 0 d1) = .ok (mapV s) (wr.setCells w.heap.size 0 d1)) := Lib.hid fun tm h4 => by rw [hd1]; exact res_of h4 (HZ.out.stored s)
      clear hs hd1 hz
      go_wp2_with (first
        | (refine wpList_load_mid (by rfl) 27 (.tmp 3) (by rfl) (w.heap.size + 1) 0 (by rfl) d1 _ HR1.out Tryd.underlying27 (by rfl) HI1.out ?_)
        | (refine wpList_store_mid (by rfl) 27 (.tmp 2) (.tmp 16) (by rfl) w.heap.size 0 d1.toArray (by rfl) (by rfl) HT1.out HI2.out HO2.out ?_))
      exact bodyPost_ret (HF.out _ rfl) rfl ⟨by rw [← HSL.out], below_setCells _ _ _ _ (Nat.le_refl _) HB.out⟩
end Go.Proofs.YtgfafcolfcdkdaaDoor
