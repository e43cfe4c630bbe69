/-
  The document's Forget.
-/
import Derived.Test.YtcmhodimkpkmbaaDoorIxBound
namespace Go.Proofs.YtcmhodimkpkmbaaDoor
open Go.ChangeShapes Go.WideShapes Go.ChangeAt Go.RowKit
set_option maxRecDepth 100000

set_option maxHeartbeats 1000000 in
theorem ixForget_far (rb : Nat) (S : Ix.St) (o gen : Int) (a : Ix.Ad) (w : World) (h : RIx w rb S) (hm : Ix.may o = false) :
    Calls Tryd.prog 19 #[.pointer (some ⟨rb, 0, none⟩), .int .i64 o, .int .i64 gen, adV a] w (IxTo rb (Ix.fgt S o gen a) w) := by
  have hS : Ix.fgt S o gen a = S := by unfold Ix.fgt; rw [hm]; rfl
  rw [hS]
  obtain ⟨seg, page⟩ := a
  have hb : Below w.heap.size w (w.alloc (.cells #[.int .i64 seg, .int .i64 page] 30)) := (Below.refl _ w).alloc (Nat.le_refl _) _
  have HP : Hid (IxTo rb S w (.returned (.tuple #[])) (w.alloc (.cells #[.int .i64 seg, .int .i64 page] 30))) := Lib.hid ⟨⟨_, rfl⟩, grown_below hb _, h.below hb⟩
  unfold Ix.may at hm
  by_cases h1 : o < 0
  · have d1 : decide (o < 0) = true := decide_eq_true h1
    clear hm h hS h1 hb
    go_enter Tryd.func19, Tryd.ntmps19
    go_wp2
    exact bodyPost_ret (results_none rfl _ _ _) rfl ⟨⟨_, rfl⟩, HP.out.2⟩
  · have d1 : decide (o < 0) = false := decide_eq_false h1
    have d2 : decide (15 < o) = true := decide_eq_true (by have := of_decide_eq_false hm; omega)
    clear hm h hS h1 hb
    go_enter Tryd.func19, Tryd.ntmps19
    go_wp2
    exact bodyPost_ret (results_none rfl _ _ _) rfl ⟨⟨_, rfl⟩, HP.out.2⟩
set_option linter.unusedSimpArgs false in
set_option maxHeartbeats 8000000 in
theorem ixForget_yes (rb k : Nat) (S : Ix.St) (gen : Int) (a : Ix.Ad) (w : World) (h : RIx w rb S) (hk : k < 16) :
    Calls Tryd.prog 19 #[.pointer (some ⟨rb, 0, none⟩), .int .i64 (k : Int), .int .i64 gen, adV a] w (IxTo rb (Ix.upd S k (Ix.fgt1 (S k) gen a)) w) := by
  obtain ⟨seg, page⟩ := a
  have hrb := h.lt
  obtain ⟨H, hcell, hrows⟩ := h
  obtain ⟨A, c, hH, hAc, -⟩ := hrows k hk
  obtain ⟨wz, hwz⟩ : ∃ wz, wz = w.alloc (.cells #[.int .i64 seg, .int .i64 page] 30) := ⟨_, rfl⟩
  have hb : Below w.heap.size w wz := by rw [hwz]; exact (Below.refl _ w).alloc (Nat.le_refl _) _
  have hbl : wz.heap[rb]? = some (.cells (ixC S H).toArray 47 (0, 0)) := (hb.block rb hrb).trans hcell
  have hslot := slot_range hbl hk
  rw [hH] at hslot
  have hzsz : wz.heap.size = w.heap.size + 1 := by rw [hwz]; simp
  have p0 : wz.cell? ⟨w.heap.size, 0, none⟩ = some (.int .i64 seg) := by rw [hwz]; simp
  have p1 : wz.cell? ⟨w.heap.size, 1, none⟩ = some (.int .i64 page) := by rw [hwz]; simp
  have HQ : Hid (∀ (X : Obj) , (wz.alloc X).cell? ⟨w.heap.size, 0, none⟩ = some (.int .i64 seg) ∧ (wz.alloc X).cell? ⟨w.heap.size, 1, none⟩ = some (.int .i64 page)) := Lib.hid fun X => by
    have hbx : Below wz.heap.size wz (wz.alloc X) := (Below.refl _ wz).alloc (Nat.le_refl _) _
    exact ⟨(hbx.cell (p := ⟨w.heap.size, 0, none⟩) (by dsimp only; omega)).trans p0, (hbx.cell (p := ⟨w.heap.size, 1, none⟩) (by dsimp only; omega)).trans p1⟩
  have HT : Hid (∀ W', Below wz.heap.size wz W' → W'.there rb (k * 12) 12) := Lib.hid fun W' hW j hj => by
    have hbl' := (hW.block rb (Nat.lt_of_lt_of_le hrb hb.size)).trans hbl
    have h9 := slot_range hbl' hk j (slotC (S k) (H k))[j] (List.getElem?_eq_getElem (by rw [slotC_length]; exact hj))
    exact ⟨by rw [h9]; rfl, cells_frozen hbl' _⟩
  have HPUT : Hid (∀ (W' : World) (Sn : Ix.Sl) (vn : Value), Below wz.heap.size wz W' → (vn = .slice none 0 0 ∧ Sn.sl = [] ∨ vn = H k ∧ Sn.sl = (S k).sl) → w.grownBy (W'.setCells rb (k * 12) (slotC Sn vn)) (some rb) ∧ RIx (W'.setCells rb (k * 12) (slotC Sn vn)) rb (Ix.upd S k Sn)) := Lib.hid (by
    intro W' Sn vn hW h7
    have hbl' := (hW.block rb (Nat.lt_of_lt_of_le hrb hb.size)).trans hbl
    have h1 := Else.setCells (slotC Sn vn) (k * 12) W' (Else.refl rb W')
    have hb2 : Below w.heap.size w W' := hb.trans (hW.mono hb.size)
    have hq : ∀ i, i < w.heap.size → i ≠ rb → (W'.setCells rb (k * 12) (slotC Sn vn)).heap[i]? = w.heap[i]? := fun i hi hne => (h1.same i hne).trans (hb2.block i hi)
    refine ⟨⟨h1.os.trans hb2.os, h1.tape.trans hb2.tape, h1.output.trans hb2.output, by rw [h1.size]; exact hb2.size, fun i hi hne => hq i hi (fun e => hne (by rw [e]))⟩, RIx.put hrows (by rw [h1.size]; exact hb2.size) hq Sn vn (slot_put hbl' hk Sn vn) ?_⟩
    rcases h7 with ⟨rfl, h8⟩ | ⟨rfl, h8⟩
    · rw [h8]
      exact SRow.nil _ _
    · rw [h8]
      exact (hrows k hk).frame (by rw [h1.size]; exact hb2.size) hq)
  have HSS := Lib.hid (rfl : S k = S k)
  have HHV := Lib.hid hH
  generalize hs : S k = s at *
  obtain ⟨sb, ⟨so, sg, stg, sl, stk⟩, ⟨s1, s2⟩, sc, sf, ⟨t1, t2⟩⟩ := s
  have HSK := Lib.hid hs
  have HWZ := Lib.hid hwz
  have k0 : (0 : Int) ≤ (k : Int) := by omega
  have k1 : (k : Int) < 16 := by omega
  have d1 : decide ((k : Int) < 0) = false := decide_eq_false (by omega)
  have d2 : decide ((15 : Int) < (k : Int)) = false := decide_eq_false (by omega)
  have kw : IntKind.i64.wrap (k : Int) = (k : Int) := IntWalk.i64_in _ (by omega)
  unfold slotC at hslot
  dsimp only at hslot hAc
  have HSL := Lib.hid hslot
  have hq0 := fun X => (HQ.out X).1
  have hq1 := fun X => (HQ.out X).2
  clear hslot hwz hcell hrows hbl hb hrb hH hAc hs HSS
  obtain ⟨sn, hsn⟩ : ∃ sn, sn = Ix.fgt1 ⟨sb, ⟨so, sg, stg, sl, stk⟩, (s1, s2), sc, sf, (t1, t2)⟩ gen (seg, page) := ⟨_, rfl⟩
  have HSN := Lib.hid hsn
  unfold Ix.fgt1 at hsn
  dsimp only at hsn
  have hp : (decide (0 < gen) = false) ∨ (decide (0 < gen) = true ∧ decide (sf ≤ gen) = false) ∨ (decide (0 < gen) = true ∧ decide (sf ≤ gen) = true) := by
    by_cases h1 : 0 < gen <;> by_cases h2 : sf ≤ gen <;> simp [h1, h2]
  have hq : sb = false ∨ (sb = true ∧ decide (sg ≤ gen) = false) ∨ (sb = true ∧ decide (sg ≤ gen) = true) := by
    cases sb <;> by_cases h2 : sg ≤ gen <;> simp [h2]
  rcases hq with rfl | ⟨rfl, c2⟩ | ⟨rfl, c2⟩
  · rcases hp with c1 | ⟨c1, c3⟩ | ⟨c1, c3⟩
    · have n1 : ¬ (0 < gen ∧ sf ≤ gen) := fun h => of_decide_eq_false c1 h.1
      have n2 : ¬ False := id
      simp only [if_neg n1, Bool.false_eq_true, false_and, true_and, if_neg n2] at hsn
      have HE : Hid (sn = ⟨false, ⟨so, sg, stg, sl, stk⟩, (s1, s2), sc, sf, (t1, t2)⟩) := Lib.hid hsn
      clear hsn n1 n2
      go_enter Tryd.func19, Tryd.ntmps19
      go_wp2_with (rw [← HWZ.out]; refine wpList_load_mid (by rfl) 44 (.tmp 19) (by rfl) rb (k * 12) (by rfl) [.bool false, .int .i64 so, .int .i64 sg, .string stg, .int .i64 sl, .int .i64 stk, .int .i64 s1, .int .i64 s2, .slice A sc.length c, .int .i64 sf, .int .i64 t1, .int .i64 t2] _ HSL.out Tryd.underlying44 (by rfl) slot_size ?_)
      obtain ⟨W9, hW9⟩ : ∃ W9, W9 = wz.alloc (.cells #[.bool false, .int .i64 so, .int .i64 sg, .string stg, .int .i64 sl, .int .i64 stk, .int .i64 s1, .int .i64 s2, .slice A sc.length c, .int .i64 sf, .int .i64 t1, .int .i64 t2] 44) := ⟨_, rfl⟩
      have hB9 : Below wz.heap.size wz W9 := by rw [hW9]; exact (Below.refl _ wz).alloc (Nat.le_refl _) _
      have hbox : W9.heap[w.heap.size + 1]? = some (.cells ([.bool false, .int .i64 so, .int .i64 sg, .string stg, .int .i64 sl, .int .i64 stk, .int .i64 s1, .int .i64 s2, .slice A sc.length c, .int .i64 sf, .int .i64 t1, .int .i64 t2]).toArray 44 (0, 0)) := by rw [hW9, ← hzsz]; exact heap_alloc_new wz _
      rw [← hW9]
      have HT2 := HT.out _ hB9.drew
      have HP2 := Lib.hid (HPUT.out _ sn (.slice A sc.length c) hB9.drew (by rw [HE.out]; exact .inr ⟨HHV.out.symm, rfl⟩))
      have g0 := (cells_at hbox 0).trans rfl
      have g1 := (cells_at hbox 1).trans rfl
      have g2 := (cells_at hbox 2).trans rfl
      have g3 := (cells_at hbox 3).trans rfl
      have g4 := (cells_at hbox 4).trans rfl
      have g5 := (cells_at hbox 5).trans rfl
      have g6 := (cells_at hbox 6).trans rfl
      have g7 := (cells_at hbox 7).trans rfl
      have g8 := (cells_at hbox 8).trans rfl
      have g9 := (cells_at hbox 9).trans rfl
      have g10 := (cells_at hbox 10).trans rfl
      have g11 := (cells_at hbox 11).trans rfl
      clear hW9 hB9 hbox
      refine wp_region_still_tail 6 (by kernel_rfl) (by kernel_rfl) ?_
      simp only [List.take_succ_cons, List.take_zero, List.drop_succ_cons, List.drop_zero]
      repeat still_step
      refine wpStill_nil ?_
      change wpList _ _ _ _ _ W9.drew
      refine wpList_store_mid (by rfl) 44 (.tmp 52) (.tmp 49) (by rfl) rb (k * 12) ([.bool false, .int .i64 so, .int .i64 sg, .string stg, .int .i64 sl, .int .i64 stk, .int .i64 s1, .int .i64 s2, .slice A sc.length c, .int .i64 sf, .int .i64 t1, .int .i64 t2]).toArray (by rfl) (by rfl) HT2 slot_size (by simp [Value.oneCell']) ?_
      rw [List.toList_toArray, show [.bool false, .int .i64 so, .int .i64 sg, .string stg, .int .i64 sl, .int .i64 stk, .int .i64 s1, .int .i64 s2, .slice A sc.length c, .int .i64 sf, .int .i64 t1, .int .i64 t2] = slotC sn (.slice A sc.length c) by rw [HE.out]; rfl]
      go_wp2
      exact bodyPost_ret (results_none rfl _ _ _) rfl ⟨⟨_, rfl⟩, by rw [← HSN.out]; exact HP2.out⟩
    · have n1 : ¬ (0 < gen ∧ sf ≤ gen) := fun h => of_decide_eq_false c3 h.2
      have n2 : ¬ False := id
      simp only [if_neg n1, Bool.false_eq_true, false_and, true_and, if_neg n2] at hsn
      have HE : Hid (sn = ⟨false, ⟨so, sg, stg, sl, stk⟩, (s1, s2), sc, sf, (t1, t2)⟩) := Lib.hid hsn
      clear hsn n1 n2
      go_enter Tryd.func19, Tryd.ntmps19
      go_wp2_with (rw [← HWZ.out]; refine wpList_load_mid (by rfl) 44 (.tmp 19) (by rfl) rb (k * 12) (by rfl) [.bool false, .int .i64 so, .int .i64 sg, .string stg, .int .i64 sl, .int .i64 stk, .int .i64 s1, .int .i64 s2, .slice A sc.length c, .int .i64 sf, .int .i64 t1, .int .i64 t2] _ HSL.out Tryd.underlying44 (by rfl) slot_size ?_)
      obtain ⟨W9, hW9⟩ : ∃ W9, W9 = wz.alloc (.cells #[.bool false, .int .i64 so, .int .i64 sg, .string stg, .int .i64 sl, .int .i64 stk, .int .i64 s1, .int .i64 s2, .slice A sc.length c, .int .i64 sf, .int .i64 t1, .int .i64 t2] 44) := ⟨_, rfl⟩
      have hB9 : Below wz.heap.size wz W9 := by rw [hW9]; exact (Below.refl _ wz).alloc (Nat.le_refl _) _
      have hbox : W9.heap[w.heap.size + 1]? = some (.cells ([.bool false, .int .i64 so, .int .i64 sg, .string stg, .int .i64 sl, .int .i64 stk, .int .i64 s1, .int .i64 s2, .slice A sc.length c, .int .i64 sf, .int .i64 t1, .int .i64 t2]).toArray 44 (0, 0)) := by rw [hW9, ← hzsz]; exact heap_alloc_new wz _
      rw [← hW9]
      have HT2 := HT.out _ hB9.drew
      have HP2 := Lib.hid (HPUT.out _ sn (.slice A sc.length c) hB9.drew (by rw [HE.out]; exact .inr ⟨HHV.out.symm, rfl⟩))
      have g0 := (cells_at hbox 0).trans rfl
      have g1 := (cells_at hbox 1).trans rfl
      have g2 := (cells_at hbox 2).trans rfl
      have g3 := (cells_at hbox 3).trans rfl
      have g4 := (cells_at hbox 4).trans rfl
      have g5 := (cells_at hbox 5).trans rfl
      have g6 := (cells_at hbox 6).trans rfl
      have g7 := (cells_at hbox 7).trans rfl
      have g8 := (cells_at hbox 8).trans rfl
      have g9 := (cells_at hbox 9).trans rfl
      have g10 := (cells_at hbox 10).trans rfl
      have g11 := (cells_at hbox 11).trans rfl
      clear hW9 hB9 hbox
      refine wp_region_still_tail 6 (by kernel_rfl) (by kernel_rfl) ?_
      simp only [List.take_succ_cons, List.take_zero, List.drop_succ_cons, List.drop_zero]
      repeat still_step
      refine wpStill_nil ?_
      change wpList _ _ _ _ _ W9.drew
      refine wpList_store_mid (by rfl) 44 (.tmp 52) (.tmp 49) (by rfl) rb (k * 12) ([.bool false, .int .i64 so, .int .i64 sg, .string stg, .int .i64 sl, .int .i64 stk, .int .i64 s1, .int .i64 s2, .slice A sc.length c, .int .i64 sf, .int .i64 t1, .int .i64 t2]).toArray (by rfl) (by rfl) HT2 slot_size (by simp [Value.oneCell']) ?_
      rw [List.toList_toArray, show [.bool false, .int .i64 so, .int .i64 sg, .string stg, .int .i64 sl, .int .i64 stk, .int .i64 s1, .int .i64 s2, .slice A sc.length c, .int .i64 sf, .int .i64 t1, .int .i64 t2] = slotC sn (.slice A sc.length c) by rw [HE.out]; rfl]
      go_wp2
      exact bodyPost_ret (results_none rfl _ _ _) rfl ⟨⟨_, rfl⟩, by rw [← HSN.out]; exact HP2.out⟩
    · have n1 : 0 < gen ∧ sf ≤ gen := ⟨of_decide_eq_true c1, of_decide_eq_true c3⟩
      have n2 : ¬ False := id
      simp only [if_pos n1, Bool.false_eq_true, false_and, true_and, if_neg n2] at hsn
      have HE : Hid (sn = ⟨false, ⟨so, sg, stg, sl, stk⟩, (s1, s2), sc, gen, (seg, page)⟩) := Lib.hid hsn
      clear hsn n1 n2
      go_enter Tryd.func19, Tryd.ntmps19
      go_wp2_with (rw [← HWZ.out]; refine wpList_load_mid (by rfl) 44 (.tmp 19) (by rfl) rb (k * 12) (by rfl) [.bool false, .int .i64 so, .int .i64 sg, .string stg, .int .i64 sl, .int .i64 stk, .int .i64 s1, .int .i64 s2, .slice A sc.length c, .int .i64 sf, .int .i64 t1, .int .i64 t2] _ HSL.out Tryd.underlying44 (by rfl) slot_size ?_)
      obtain ⟨W9, hW9⟩ : ∃ W9, W9 = wz.alloc (.cells #[.bool false, .int .i64 so, .int .i64 sg, .string stg, .int .i64 sl, .int .i64 stk, .int .i64 s1, .int .i64 s2, .slice A sc.length c, .int .i64 gen, .int .i64 seg, .int .i64 page] 44) := ⟨_, rfl⟩
      have hB9 : Below wz.heap.size wz W9 := by rw [hW9]; exact (Below.refl _ wz).alloc (Nat.le_refl _) _
      have hbox : W9.heap[w.heap.size + 1]? = some (.cells ([.bool false, .int .i64 so, .int .i64 sg, .string stg, .int .i64 sl, .int .i64 stk, .int .i64 s1, .int .i64 s2, .slice A sc.length c, .int .i64 gen, .int .i64 seg, .int .i64 page]).toArray 44 (0, 0)) := by rw [hW9, ← hzsz]; exact heap_alloc_new wz _
      rw [← hW9]
      have HT2 := HT.out _ hB9.drew
      have HP2 := Lib.hid (HPUT.out _ sn (.slice A sc.length c) hB9.drew (by rw [HE.out]; exact .inr ⟨HHV.out.symm, rfl⟩))
      have g0 := (cells_at hbox 0).trans rfl
      have g1 := (cells_at hbox 1).trans rfl
      have g2 := (cells_at hbox 2).trans rfl
      have g3 := (cells_at hbox 3).trans rfl
      have g4 := (cells_at hbox 4).trans rfl
      have g5 := (cells_at hbox 5).trans rfl
      have g6 := (cells_at hbox 6).trans rfl
      have g7 := (cells_at hbox 7).trans rfl
      have g8 := (cells_at hbox 8).trans rfl
      have g9 := (cells_at hbox 9).trans rfl
      have g10 := (cells_at hbox 10).trans rfl
      have g11 := (cells_at hbox 11).trans rfl
      clear hW9 hB9 hbox
      refine wp_region_still_tail 6 (by kernel_rfl) (by kernel_rfl) ?_
      simp only [List.take_succ_cons, List.take_zero, List.drop_succ_cons, List.drop_zero]
      repeat still_step
      refine wpStill_nil ?_
      change wpList _ _ _ _ _ W9.drew
      refine wpList_store_mid (by rfl) 44 (.tmp 52) (.tmp 49) (by rfl) rb (k * 12) ([.bool false, .int .i64 so, .int .i64 sg, .string stg, .int .i64 sl, .int .i64 stk, .int .i64 s1, .int .i64 s2, .slice A sc.length c, .int .i64 gen, .int .i64 seg, .int .i64 page]).toArray (by rfl) (by rfl) HT2 slot_size (by simp [Value.oneCell']) ?_
      rw [List.toList_toArray, show [.bool false, .int .i64 so, .int .i64 sg, .string stg, .int .i64 sl, .int .i64 stk, .int .i64 s1, .int .i64 s2, .slice A sc.length c, .int .i64 gen, .int .i64 seg, .int .i64 page] = slotC sn (.slice A sc.length c) by rw [HE.out]; rfl]
      go_wp2
      exact bodyPost_ret (results_none rfl _ _ _) rfl ⟨⟨_, rfl⟩, by rw [← HSN.out]; exact HP2.out⟩
  · rcases hp with c1 | ⟨c1, c3⟩ | ⟨c1, c3⟩
    · have n1 : ¬ (0 < gen ∧ sf ≤ gen) := fun h => of_decide_eq_false c1 h.1
      have n2 : ¬ sg ≤ gen := of_decide_eq_false c2
      simp only [if_neg n1, Bool.false_eq_true, false_and, true_and, if_neg n2] at hsn
      have HE : Hid (sn = ⟨true, ⟨so, sg, stg, sl, stk⟩, (s1, s2), sc, sf, (t1, t2)⟩) := Lib.hid hsn
      clear hsn n1 n2
      go_enter Tryd.func19, Tryd.ntmps19
      go_wp2_with (rw [← HWZ.out]; refine wpList_load_mid (by rfl) 44 (.tmp 19) (by rfl) rb (k * 12) (by rfl) [.bool true, .int .i64 so, .int .i64 sg, .string stg, .int .i64 sl, .int .i64 stk, .int .i64 s1, .int .i64 s2, .slice A sc.length c, .int .i64 sf, .int .i64 t1, .int .i64 t2] _ HSL.out Tryd.underlying44 (by rfl) slot_size ?_)
      obtain ⟨W9, hW9⟩ : ∃ W9, W9 = wz.alloc (.cells #[.bool true, .int .i64 so, .int .i64 sg, .string stg, .int .i64 sl, .int .i64 stk, .int .i64 s1, .int .i64 s2, .slice A sc.length c, .int .i64 sf, .int .i64 t1, .int .i64 t2] 44) := ⟨_, rfl⟩
      have hB9 : Below wz.heap.size wz W9 := by rw [hW9]; exact (Below.refl _ wz).alloc (Nat.le_refl _) _
      have hbox : W9.heap[w.heap.size + 1]? = some (.cells ([.bool true, .int .i64 so, .int .i64 sg, .string stg, .int .i64 sl, .int .i64 stk, .int .i64 s1, .int .i64 s2, .slice A sc.length c, .int .i64 sf, .int .i64 t1, .int .i64 t2]).toArray 44 (0, 0)) := by rw [hW9, ← hzsz]; exact heap_alloc_new wz _
      rw [← hW9]
      have HT2 := HT.out _ hB9.drew
      have HP2 := Lib.hid (HPUT.out _ sn (.slice A sc.length c) hB9.drew (by rw [HE.out]; exact .inr ⟨HHV.out.symm, rfl⟩))
      have g0 := (cells_at hbox 0).trans rfl
      have g1 := (cells_at hbox 1).trans rfl
      have g2 := (cells_at hbox 2).trans rfl
      have g3 := (cells_at hbox 3).trans rfl
      have g4 := (cells_at hbox 4).trans rfl
      have g5 := (cells_at hbox 5).trans rfl
      have g6 := (cells_at hbox 6).trans rfl
      have g7 := (cells_at hbox 7).trans rfl
      have g8 := (cells_at hbox 8).trans rfl
      have g9 := (cells_at hbox 9).trans rfl
      have g10 := (cells_at hbox 10).trans rfl
      have g11 := (cells_at hbox 11).trans rfl
      clear hW9 hB9 hbox
      refine wp_region_still_tail 6 (by kernel_rfl) (by kernel_rfl) ?_
      simp only [List.take_succ_cons, List.take_zero, List.drop_succ_cons, List.drop_zero]
      repeat still_step
      refine wpStill_nil ?_
      change wpList _ _ _ _ _ W9.drew
      refine wpList_store_mid (by rfl) 44 (.tmp 52) (.tmp 49) (by rfl) rb (k * 12) ([.bool true, .int .i64 so, .int .i64 sg, .string stg, .int .i64 sl, .int .i64 stk, .int .i64 s1, .int .i64 s2, .slice A sc.length c, .int .i64 sf, .int .i64 t1, .int .i64 t2]).toArray (by rfl) (by rfl) HT2 slot_size (by simp [Value.oneCell']) ?_
      rw [List.toList_toArray, show [.bool true, .int .i64 so, .int .i64 sg, .string stg, .int .i64 sl, .int .i64 stk, .int .i64 s1, .int .i64 s2, .slice A sc.length c, .int .i64 sf, .int .i64 t1, .int .i64 t2] = slotC sn (.slice A sc.length c) by rw [HE.out]; rfl]
      go_wp2
      exact bodyPost_ret (results_none rfl _ _ _) rfl ⟨⟨_, rfl⟩, by rw [← HSN.out]; exact HP2.out⟩
    · have n1 : ¬ (0 < gen ∧ sf ≤ gen) := fun h => of_decide_eq_false c3 h.2
      have n2 : ¬ sg ≤ gen := of_decide_eq_false c2
      simp only [if_neg n1, Bool.false_eq_true, false_and, true_and, if_neg n2] at hsn
      have HE : Hid (sn = ⟨true, ⟨so, sg, stg, sl, stk⟩, (s1, s2), sc, sf, (t1, t2)⟩) := Lib.hid hsn
      clear hsn n1 n2
      go_enter Tryd.func19, Tryd.ntmps19
      go_wp2_with (rw [← HWZ.out]; refine wpList_load_mid (by rfl) 44 (.tmp 19) (by rfl) rb (k * 12) (by rfl) [.bool true, .int .i64 so, .int .i64 sg, .string stg, .int .i64 sl, .int .i64 stk, .int .i64 s1, .int .i64 s2, .slice A sc.length c, .int .i64 sf, .int .i64 t1, .int .i64 t2] _ HSL.out Tryd.underlying44 (by rfl) slot_size ?_)
      obtain ⟨W9, hW9⟩ : ∃ W9, W9 = wz.alloc (.cells #[.bool true, .int .i64 so, .int .i64 sg, .string stg, .int .i64 sl, .int .i64 stk, .int .i64 s1, .int .i64 s2, .slice A sc.length c, .int .i64 sf, .int .i64 t1, .int .i64 t2] 44) := ⟨_, rfl⟩
      have hB9 : Below wz.heap.size wz W9 := by rw [hW9]; exact (Below.refl _ wz).alloc (Nat.le_refl _) _
      have hbox : W9.heap[w.heap.size + 1]? = some (.cells ([.bool true, .int .i64 so, .int .i64 sg, .string stg, .int .i64 sl, .int .i64 stk, .int .i64 s1, .int .i64 s2, .slice A sc.length c, .int .i64 sf, .int .i64 t1, .int .i64 t2]).toArray 44 (0, 0)) := by rw [hW9, ← hzsz]; exact heap_alloc_new wz _
      rw [← hW9]
      have HT2 := HT.out _ hB9.drew
      have HP2 := Lib.hid (HPUT.out _ sn (.slice A sc.length c) hB9.drew (by rw [HE.out]; exact .inr ⟨HHV.out.symm, rfl⟩))
      have g0 := (cells_at hbox 0).trans rfl
      have g1 := (cells_at hbox 1).trans rfl
      have g2 := (cells_at hbox 2).trans rfl
      have g3 := (cells_at hbox 3).trans rfl
      have g4 := (cells_at hbox 4).trans rfl
      have g5 := (cells_at hbox 5).trans rfl
      have g6 := (cells_at hbox 6).trans rfl
      have g7 := (cells_at hbox 7).trans rfl
      have g8 := (cells_at hbox 8).trans rfl
      have g9 := (cells_at hbox 9).trans rfl
      have g10 := (cells_at hbox 10).trans rfl
      have g11 := (cells_at hbox 11).trans rfl
      clear hW9 hB9 hbox
      refine wp_region_still_tail 6 (by kernel_rfl) (by kernel_rfl) ?_
      simp only [List.take_succ_cons, List.take_zero, List.drop_succ_cons, List.drop_zero]
      repeat still_step
      refine wpStill_nil ?_
      change wpList _ _ _ _ _ W9.drew
      refine wpList_store_mid (by rfl) 44 (.tmp 52) (.tmp 49) (by rfl) rb (k * 12) ([.bool true, .int .i64 so, .int .i64 sg, .string stg, .int .i64 sl, .int .i64 stk, .int .i64 s1, .int .i64 s2, .slice A sc.length c, .int .i64 sf, .int .i64 t1, .int .i64 t2]).toArray (by rfl) (by rfl) HT2 slot_size (by simp [Value.oneCell']) ?_
      rw [List.toList_toArray, show [.bool true, .int .i64 so, .int .i64 sg, .string stg, .int .i64 sl, .int .i64 stk, .int .i64 s1, .int .i64 s2, .slice A sc.length c, .int .i64 sf, .int .i64 t1, .int .i64 t2] = slotC sn (.slice A sc.length c) by rw [HE.out]; rfl]
      go_wp2
      exact bodyPost_ret (results_none rfl _ _ _) rfl ⟨⟨_, rfl⟩, by rw [← HSN.out]; exact HP2.out⟩
    · have n1 : 0 < gen ∧ sf ≤ gen := ⟨of_decide_eq_true c1, of_decide_eq_true c3⟩
      have n2 : ¬ sg ≤ gen := of_decide_eq_false c2
      simp only [if_pos n1, Bool.false_eq_true, false_and, true_and, if_neg n2] at hsn
      have HE : Hid (sn = ⟨true, ⟨so, sg, stg, sl, stk⟩, (s1, s2), sc, gen, (seg, page)⟩) := Lib.hid hsn
      clear hsn n1 n2
      go_enter Tryd.func19, Tryd.ntmps19
      go_wp2_with (rw [← HWZ.out]; refine wpList_load_mid (by rfl) 44 (.tmp 19) (by rfl) rb (k * 12) (by rfl) [.bool true, .int .i64 so, .int .i64 sg, .string stg, .int .i64 sl, .int .i64 stk, .int .i64 s1, .int .i64 s2, .slice A sc.length c, .int .i64 sf, .int .i64 t1, .int .i64 t2] _ HSL.out Tryd.underlying44 (by rfl) slot_size ?_)
      obtain ⟨W9, hW9⟩ : ∃ W9, W9 = wz.alloc (.cells #[.bool true, .int .i64 so, .int .i64 sg, .string stg, .int .i64 sl, .int .i64 stk, .int .i64 s1, .int .i64 s2, .slice A sc.length c, .int .i64 gen, .int .i64 seg, .int .i64 page] 44) := ⟨_, rfl⟩
      have hB9 : Below wz.heap.size wz W9 := by rw [hW9]; exact (Below.refl _ wz).alloc (Nat.le_refl _) _
      have hbox : W9.heap[w.heap.size + 1]? = some (.cells ([.bool true, .int .i64 so, .int .i64 sg, .string stg, .int .i64 sl, .int .i64 stk, .int .i64 s1, .int .i64 s2, .slice A sc.length c, .int .i64 gen, .int .i64 seg, .int .i64 page]).toArray 44 (0, 0)) := by rw [hW9, ← hzsz]; exact heap_alloc_new wz _
      rw [← hW9]
      have HT2 := HT.out _ hB9.drew
      have HP2 := Lib.hid (HPUT.out _ sn (.slice A sc.length c) hB9.drew (by rw [HE.out]; exact .inr ⟨HHV.out.symm, rfl⟩))
      have g0 := (cells_at hbox 0).trans rfl
      have g1 := (cells_at hbox 1).trans rfl
      have g2 := (cells_at hbox 2).trans rfl
      have g3 := (cells_at hbox 3).trans rfl
      have g4 := (cells_at hbox 4).trans rfl
      have g5 := (cells_at hbox 5).trans rfl
      have g6 := (cells_at hbox 6).trans rfl
      have g7 := (cells_at hbox 7).trans rfl
      have g8 := (cells_at hbox 8).trans rfl
      have g9 := (cells_at hbox 9).trans rfl
      have g10 := (cells_at hbox 10).trans rfl
      have g11 := (cells_at hbox 11).trans rfl
      clear hW9 hB9 hbox
      refine wp_region_still_tail 6 (by kernel_rfl) (by kernel_rfl) ?_
      simp only [List.take_succ_cons, List.take_zero, List.drop_succ_cons, List.drop_zero]
      repeat still_step
      refine wpStill_nil ?_
      change wpList _ _ _ _ _ W9.drew
      refine wpList_store_mid (by rfl) 44 (.tmp 52) (.tmp 49) (by rfl) rb (k * 12) ([.bool true, .int .i64 so, .int .i64 sg, .string stg, .int .i64 sl, .int .i64 stk, .int .i64 s1, .int .i64 s2, .slice A sc.length c, .int .i64 gen, .int .i64 seg, .int .i64 page]).toArray (by rfl) (by rfl) HT2 slot_size (by simp [Value.oneCell']) ?_
      rw [List.toList_toArray, show [.bool true, .int .i64 so, .int .i64 sg, .string stg, .int .i64 sl, .int .i64 stk, .int .i64 s1, .int .i64 s2, .slice A sc.length c, .int .i64 gen, .int .i64 seg, .int .i64 page] = slotC sn (.slice A sc.length c) by rw [HE.out]; rfl]
      go_wp2
      exact bodyPost_ret (results_none rfl _ _ _) rfl ⟨⟨_, rfl⟩, by rw [← HSN.out]; exact HP2.out⟩
  · rcases hp with c1 | ⟨c1, c3⟩ | ⟨c1, c3⟩
    · have n1 : ¬ (0 < gen ∧ sf ≤ gen) := fun h => of_decide_eq_false c1 h.1
      have n2 : sg ≤ gen := of_decide_eq_true c2
      simp only [if_neg n1, Bool.false_eq_true, false_and, true_and, if_pos n2] at hsn
      have HE : Hid (sn = ⟨false, Ix.bd0, (0, 0), [], sf, (t1, t2)⟩) := Lib.hid hsn
      clear hsn n1 n2
      go_enter Tryd.func19, Tryd.ntmps19
      go_wp2_with (rw [← HWZ.out]; refine wpList_load_mid (by rfl) 44 (.tmp 19) (by rfl) rb (k * 12) (by rfl) [.bool true, .int .i64 so, .int .i64 sg, .string stg, .int .i64 sl, .int .i64 stk, .int .i64 s1, .int .i64 s2, .slice A sc.length c, .int .i64 sf, .int .i64 t1, .int .i64 t2] _ HSL.out Tryd.underlying44 (by rfl) slot_size ?_)
      obtain ⟨W9, hW9⟩ : ∃ W9, W9 = wz.alloc (.cells #[.bool false, .int .i64 0, .int .i64 0, .string ⟨#[]⟩, .int .i64 0, .int .i64 0, .int .i64 0, .int .i64 0, .slice none 0 0, .int .i64 sf, .int .i64 t1, .int .i64 t2] 44) := ⟨_, rfl⟩
      have hB9 : Below wz.heap.size wz W9 := by rw [hW9]; exact (Below.refl _ wz).alloc (Nat.le_refl _) _
      have hbox : W9.heap[w.heap.size + 1]? = some (.cells ([.bool false, .int .i64 0, .int .i64 0, .string ⟨#[]⟩, .int .i64 0, .int .i64 0, .int .i64 0, .int .i64 0, .slice none 0 0, .int .i64 sf, .int .i64 t1, .int .i64 t2]).toArray 44 (0, 0)) := by rw [hW9, ← hzsz]; exact heap_alloc_new wz _
      rw [← hW9]
      have HT2 := HT.out _ hB9.drew
      have HP2 := Lib.hid (HPUT.out _ sn (.slice none 0 0) hB9.drew (by rw [HE.out]; exact .inl ⟨rfl, rfl⟩))
      have g0 := (cells_at hbox 0).trans rfl
      have g1 := (cells_at hbox 1).trans rfl
      have g2 := (cells_at hbox 2).trans rfl
      have g3 := (cells_at hbox 3).trans rfl
      have g4 := (cells_at hbox 4).trans rfl
      have g5 := (cells_at hbox 5).trans rfl
      have g6 := (cells_at hbox 6).trans rfl
      have g7 := (cells_at hbox 7).trans rfl
      have g8 := (cells_at hbox 8).trans rfl
      have g9 := (cells_at hbox 9).trans rfl
      have g10 := (cells_at hbox 10).trans rfl
      have g11 := (cells_at hbox 11).trans rfl
      clear hW9 hB9 hbox
      refine wp_region_still_tail 6 (by kernel_rfl) (by kernel_rfl) ?_
      simp only [List.take_succ_cons, List.take_zero, List.drop_succ_cons, List.drop_zero]
      repeat still_step
      refine wpStill_nil ?_
      change wpList _ _ _ _ _ W9.drew
      refine wpList_store_mid (by rfl) 44 (.tmp 52) (.tmp 49) (by rfl) rb (k * 12) ([.bool false, .int .i64 0, .int .i64 0, .string ⟨#[]⟩, .int .i64 0, .int .i64 0, .int .i64 0, .int .i64 0, .slice none 0 0, .int .i64 sf, .int .i64 t1, .int .i64 t2]).toArray (by rfl) (by rfl) HT2 slot_size (by simp [Value.oneCell']) ?_
      rw [List.toList_toArray, show [.bool false, .int .i64 0, .int .i64 0, .string ⟨#[]⟩, .int .i64 0, .int .i64 0, .int .i64 0, .int .i64 0, .slice none 0 0, .int .i64 sf, .int .i64 t1, .int .i64 t2] = slotC sn (.slice none 0 0) by rw [HE.out]; rfl]
      go_wp2
      exact bodyPost_ret (results_none rfl _ _ _) rfl ⟨⟨_, rfl⟩, by rw [← HSN.out]; exact HP2.out⟩
    · have n1 : ¬ (0 < gen ∧ sf ≤ gen) := fun h => of_decide_eq_false c3 h.2
      have n2 : sg ≤ gen := of_decide_eq_true c2
      simp only [if_neg n1, Bool.false_eq_true, false_and, true_and, if_pos n2] at hsn
      have HE : Hid (sn = ⟨false, Ix.bd0, (0, 0), [], sf, (t1, t2)⟩) := Lib.hid hsn
      clear hsn n1 n2
      go_enter Tryd.func19, Tryd.ntmps19
      go_wp2_with (rw [← HWZ.out]; refine wpList_load_mid (by rfl) 44 (.tmp 19) (by rfl) rb (k * 12) (by rfl) [.bool true, .int .i64 so, .int .i64 sg, .string stg, .int .i64 sl, .int .i64 stk, .int .i64 s1, .int .i64 s2, .slice A sc.length c, .int .i64 sf, .int .i64 t1, .int .i64 t2] _ HSL.out Tryd.underlying44 (by rfl) slot_size ?_)
      obtain ⟨W9, hW9⟩ : ∃ W9, W9 = wz.alloc (.cells #[.bool false, .int .i64 0, .int .i64 0, .string ⟨#[]⟩, .int .i64 0, .int .i64 0, .int .i64 0, .int .i64 0, .slice none 0 0, .int .i64 sf, .int .i64 t1, .int .i64 t2] 44) := ⟨_, rfl⟩
      have hB9 : Below wz.heap.size wz W9 := by rw [hW9]; exact (Below.refl _ wz).alloc (Nat.le_refl _) _
      have hbox : W9.heap[w.heap.size + 1]? = some (.cells ([.bool false, .int .i64 0, .int .i64 0, .string ⟨#[]⟩, .int .i64 0, .int .i64 0, .int .i64 0, .int .i64 0, .slice none 0 0, .int .i64 sf, .int .i64 t1, .int .i64 t2]).toArray 44 (0, 0)) := by rw [hW9, ← hzsz]; exact heap_alloc_new wz _
      rw [← hW9]
      have HT2 := HT.out _ hB9.drew
      have HP2 := Lib.hid (HPUT.out _ sn (.slice none 0 0) hB9.drew (by rw [HE.out]; exact .inl ⟨rfl, rfl⟩))
      have g0 := (cells_at hbox 0).trans rfl
      have g1 := (cells_at hbox 1).trans rfl
      have g2 := (cells_at hbox 2).trans rfl
      have g3 := (cells_at hbox 3).trans rfl
      have g4 := (cells_at hbox 4).trans rfl
      have g5 := (cells_at hbox 5).trans rfl
      have g6 := (cells_at hbox 6).trans rfl
      have g7 := (cells_at hbox 7).trans rfl
      have g8 := (cells_at hbox 8).trans rfl
      have g9 := (cells_at hbox 9).trans rfl
      have g10 := (cells_at hbox 10).trans rfl
      have g11 := (cells_at hbox 11).trans rfl
      clear hW9 hB9 hbox
      refine wp_region_still_tail 6 (by kernel_rfl) (by kernel_rfl) ?_
      simp only [List.take_succ_cons, List.take_zero, List.drop_succ_cons, List.drop_zero]
      repeat still_step
      refine wpStill_nil ?_
      change wpList _ _ _ _ _ W9.drew
      refine wpList_store_mid (by rfl) 44 (.tmp 52) (.tmp 49) (by rfl) rb (k * 12) ([.bool false, .int .i64 0, .int .i64 0, .string ⟨#[]⟩, .int .i64 0, .int .i64 0, .int .i64 0, .int .i64 0, .slice none 0 0, .int .i64 sf, .int .i64 t1, .int .i64 t2]).toArray (by rfl) (by rfl) HT2 slot_size (by simp [Value.oneCell']) ?_
      rw [List.toList_toArray, show [.bool false, .int .i64 0, .int .i64 0, .string ⟨#[]⟩, .int .i64 0, .int .i64 0, .int .i64 0, .int .i64 0, .slice none 0 0, .int .i64 sf, .int .i64 t1, .int .i64 t2] = slotC sn (.slice none 0 0) by rw [HE.out]; rfl]
      go_wp2
      exact bodyPost_ret (results_none rfl _ _ _) rfl ⟨⟨_, rfl⟩, by rw [← HSN.out]; exact HP2.out⟩
    · have n1 : 0 < gen ∧ sf ≤ gen := ⟨of_decide_eq_true c1, of_decide_eq_true c3⟩
      have n2 : sg ≤ gen := of_decide_eq_true c2
      simp only [if_pos n1, Bool.false_eq_true, false_and, true_and, if_pos n2] at hsn
      have HE : Hid (sn = ⟨false, Ix.bd0, (0, 0), [], gen, (seg, page)⟩) := Lib.hid hsn
      clear hsn n1 n2
      go_enter Tryd.func19, Tryd.ntmps19
      go_wp2_with (rw [← HWZ.out]; refine wpList_load_mid (by rfl) 44 (.tmp 19) (by rfl) rb (k * 12) (by rfl) [.bool true, .int .i64 so, .int .i64 sg, .string stg, .int .i64 sl, .int .i64 stk, .int .i64 s1, .int .i64 s2, .slice A sc.length c, .int .i64 sf, .int .i64 t1, .int .i64 t2] _ HSL.out Tryd.underlying44 (by rfl) slot_size ?_)
      obtain ⟨W9, hW9⟩ : ∃ W9, W9 = wz.alloc (.cells #[.bool false, .int .i64 0, .int .i64 0, .string ⟨#[]⟩, .int .i64 0, .int .i64 0, .int .i64 0, .int .i64 0, .slice none 0 0, .int .i64 gen, .int .i64 seg, .int .i64 page] 44) := ⟨_, rfl⟩
      have hB9 : Below wz.heap.size wz W9 := by rw [hW9]; exact (Below.refl _ wz).alloc (Nat.le_refl _) _
      have hbox : W9.heap[w.heap.size + 1]? = some (.cells ([.bool false, .int .i64 0, .int .i64 0, .string ⟨#[]⟩, .int .i64 0, .int .i64 0, .int .i64 0, .int .i64 0, .slice none 0 0, .int .i64 gen, .int .i64 seg, .int .i64 page]).toArray 44 (0, 0)) := by rw [hW9, ← hzsz]; exact heap_alloc_new wz _
      rw [← hW9]
      have HT2 := HT.out _ hB9.drew
      have HP2 := Lib.hid (HPUT.out _ sn (.slice none 0 0) hB9.drew (by rw [HE.out]; exact .inl ⟨rfl, rfl⟩))
      have g0 := (cells_at hbox 0).trans rfl
      have g1 := (cells_at hbox 1).trans rfl
      have g2 := (cells_at hbox 2).trans rfl
      have g3 := (cells_at hbox 3).trans rfl
      have g4 := (cells_at hbox 4).trans rfl
      have g5 := (cells_at hbox 5).trans rfl
      have g6 := (cells_at hbox 6).trans rfl
      have g7 := (cells_at hbox 7).trans rfl
      have g8 := (cells_at hbox 8).trans rfl
      have g9 := (cells_at hbox 9).trans rfl
      have g10 := (cells_at hbox 10).trans rfl
      have g11 := (cells_at hbox 11).trans rfl
      clear hW9 hB9 hbox
      refine wp_region_still_tail 6 (by kernel_rfl) (by kernel_rfl) ?_
      simp only [List.take_succ_cons, List.take_zero, List.drop_succ_cons, List.drop_zero]
      repeat still_step
      refine wpStill_nil ?_
      change wpList _ _ _ _ _ W9.drew
      refine wpList_store_mid (by rfl) 44 (.tmp 52) (.tmp 49) (by rfl) rb (k * 12) ([.bool false, .int .i64 0, .int .i64 0, .string ⟨#[]⟩, .int .i64 0, .int .i64 0, .int .i64 0, .int .i64 0, .slice none 0 0, .int .i64 gen, .int .i64 seg, .int .i64 page]).toArray (by rfl) (by rfl) HT2 slot_size (by simp [Value.oneCell']) ?_
      rw [List.toList_toArray, show [.bool false, .int .i64 0, .int .i64 0, .string ⟨#[]⟩, .int .i64 0, .int .i64 0, .int .i64 0, .int .i64 0, .slice none 0 0, .int .i64 gen, .int .i64 seg, .int .i64 page] = slotC sn (.slice none 0 0) by rw [HE.out]; rfl]
      go_wp2
      exact bodyPost_ret (results_none rfl _ _ _) rfl ⟨⟨_, rfl⟩, by rw [← HSN.out]; exact HP2.out⟩
theorem ixForget_any (rb : Nat) (S : Ix.St) (o gen : Int) (a : Ix.Ad) (w : World) (h : RIx w rb S) :
    Calls Tryd.prog 19 #[.pointer (some ⟨rb, 0, none⟩), .int .i64 o, .int .i64 gen, adV a] w (IxTo rb (Ix.fgt S o gen a) w) := by
  cases hm : Ix.may o
  · exact ixForget_far rb S o gen a w h hm
  · have h2 : 0 ≤ o ∧ o ≤ 15 := of_decide_eq_true hm
    have h3 := ixForget_yes rb o.toNat S gen a w h (by omega)
    rw [Int.toNat_of_nonneg h2.1] at h3
    unfold Ix.fgt
    rw [hm]
    exact h3
end Go.Proofs.YtcmhodimkpkmbaaDoor
