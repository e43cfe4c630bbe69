/-
  The document's own Without and Victim.
-/
import Derived.Test.YtlhkcfhhgcmieaaCkSits
import Derived.Deep.RegionHeld3
import Derived.StillTailTactics
import Derived.Deep.Cut
namespace Go.Proofs.Ytlhkcfhhgcmieaa
open Go.ChangeShapes Go.WideShapes Go.ChangeAt Go.RowKit
set_option maxRecDepth 100000

set_option maxHeartbeats 2000000 in
theorem without24_any {A : Option Addr} {n c B : Nat} {l : List Ck.Sit} {w : World} (h : SitRow w B (.slice A n c) l) (hn : l.length ≤ 1000) {k : Nat} (hk : k < l.length) :
    Calls Try.prog 10 #[.slice A n c, .int .i64 (k : Int)] w fun e w' => ∃ v, e = .returned v ∧ SitRow w' w.heap.size v (l.eraseIdx k) ∧ Below w.heap.size w w' := by
  obtain ⟨hnl, hnc, hv⟩ := h.cells
  obtain ⟨i0, zz, hi0, hz0, hz1, hz2, hz3⟩ := sit_parts
  have HI0 := Lib.hid hi0
  have HZ0 := Lib.hid hz0
  have HZC := Lib.hid hz1
  have HSI := Lib.hid hz2
  have HBI := Lib.hid hz3
  obtain ⟨l1, hl1⟩ : ∃ l1, l1 = l.take k := ⟨_, rfl⟩
  obtain ⟨l2, hl2⟩ : ∃ l2, l2 = l.drop (k + 1) := ⟨_, rfl⟩
  have HE : Hid (l.eraseIdx k = l1 ++ l2) := Lib.hid (by rw [hl1, hl2, List.eraseIdx_eq_take_drop_succ])
  have hs1 := sit_pre A n c k (by omega)
  have hs2 := sit_rest A n c (k + 1) (by omega)
  have HV1 : Hid (∀ W, Below w.heap.size w W → Vs W w.heap.size A (k * 2) (sitV l1)) := Lib.hid fun W hb => by rw [hl1]; exact (hv.frontS (by omega)).below hb
  have HV2 : Hid (∀ W, Below w.heap.size w W → Vs W w.heap.size (restN A c (k + 1)) ((n - (k + 1)) * 2) (sitV l2)) := Lib.hid fun W hb => by rw [hl2]; exact (hv.backS (by omega) hnc).below hb
  have hwk : IntKind.i64.wrap ((k : Int) + 1) = ((k + 1 : Nat) : Int) := (IntWalk.i64_in _ (by omega)).trans (by omega)
  obtain ⟨k2, hk2⟩ : ∃ k2, k2 = k + 1 := ⟨_, rfl⟩
  rw [← hk2] at hs2 HV2 hwk
  have HN : Hid (n ≤ 1000 ∧ k < n ∧ k2 = k + 1) := Lib.hid ⟨by omega, by omega, hk2⟩
  have HB0 := Lib.hid (Below.refl w.heap.size w).drew
  generalize restN A c k2 = A2 at *
  clear hi0 hz0 hz1 hz2 hz3 h hn hk hnl hnc hv hl1 hl2 hk2
  go_enter Try.func10, Try.ntmps10
  go_upto_region 1 with fail
  --W1<
  refine wp_region_held_drew (S := (fun _ => True)) (by kernel_rfl) trivial (fun hHeld => ?_)
  generalize w.drew = wc at *
  refine wpAnyH_take (i := 0) (v := ?_) (List.getElem?_toArray.trans rfl) (by kernel_rfl) (by kernel_rfl) (by kernel_rfl) (fun _ _ _ h => h) (Or.inl ⟨by rfl, ?_⟩) (by assumption) ?_
  case refine_2 => (intro w hSw; (try dsimp only at hSw); clear hSw; go_simp <;> with_reducible rfl)
  simp only [Act.put, List.setIfInBounds_toArray, List.set_cons_zero, List.set_cons_succ]
  refine wpAnyH_take (i := 1) (v := ?_) (List.getElem?_toArray.trans rfl) (by kernel_rfl) (by kernel_rfl) (by kernel_rfl) (fun _ _ _ h => h) (Or.inl ⟨by rfl, ?_⟩) (by assumption) ?_
  case refine_2 => (intro w hSw; (try dsimp only at hSw); clear hSw; go_simp <;> with_reducible rfl)
  simp only [Act.put, List.setIfInBounds_toArray, List.set_cons_zero, List.set_cons_succ]
  refine wpAnyH_take (i := 2) (v := ?_) (List.getElem?_toArray.trans rfl) (by kernel_rfl) (by kernel_rfl) (by kernel_rfl) (fun _ _ _ h => h) (Or.inl ⟨by rfl, ?_⟩) (by assumption) ?_
  case refine_2 => (intro w hSw; (try dsimp only at hSw); clear hSw; go_simp <;> with_reducible rfl)
  simp only [Act.put, List.setIfInBounds_toArray, List.set_cons_zero, List.set_cons_succ]
  refine wpAnyH_take (i := 4) (v := ?_) (List.getElem?_toArray.trans rfl) (by kernel_rfl) (by kernel_rfl) (by kernel_rfl) (fun _ _ _ h => h) (Or.inl ⟨by rfl, ?_⟩) (by assumption) ?_
  case refine_2 => (intro w hSw; (try dsimp only at hSw); clear hSw; go_simp <;> with_reducible rfl)
  simp only [Act.put, List.setIfInBounds_toArray, List.set_cons_zero, List.set_cons_succ]
  refine wpAnyH_take (i := 5) (v := ?_) (List.getElem?_toArray.trans rfl) (by kernel_rfl) (by kernel_rfl) (by kernel_rfl) (fun _ _ _ h => h) (Or.inl ⟨by rfl, ?_⟩) (by assumption) ?_
  case refine_2 => (intro w hSw; (try dsimp only at hSw); clear hSw; go_simp <;> with_reducible rfl)
  simp only [Act.put, List.setIfInBounds_toArray, List.set_cons_zero, List.set_cons_succ]
  refine wpAnyH_take (i := 6) (v := ?_) (List.getElem?_toArray.trans rfl) (by kernel_rfl) (by kernel_rfl) (by kernel_rfl) (fun _ _ _ h => h) (Or.inl ⟨by rfl, ?_⟩) (by assumption) ?_
  case refine_2 => (intro w hSw; (try dsimp only at hSw); clear hSw; go_simp <;> with_reducible rfl)
  simp only [Act.put, List.setIfInBounds_toArray, List.set_cons_zero, List.set_cons_succ]
  refine wpAnyH_take (i := 7) (v := ?_) (List.getElem?_toArray.trans rfl) (by kernel_rfl) (by kernel_rfl) (by kernel_rfl) (fun _ _ _ h => h) (Or.inl ⟨by rfl, ?_⟩) (by assumption) ?_
  case refine_2 => (intro w hSw; (try dsimp only at hSw); clear hSw; go_simp <;> with_reducible rfl)
  simp only [Act.put, List.setIfInBounds_toArray, List.set_cons_zero, List.set_cons_succ]
  refine wpAnyH_ready (rs := [3]) (by kernel_rfl) (by simp) ?_
  refine AllReadyH.cons (List.getElem?_toArray.trans rfl) (fun K hK => ?_) AllReadyH.nil
  refine step_append_rows (by rfl) _ _ _ (by rfl) w.heap.size 36 i0 zz 2 16 Try.underlying30 HI0.out HZ0.out HSI.out HBI.out HZC.out (by omega) (.slice none 0 0) 0 [] (by rfl) (World.ownsRow_nil _ _ _ _) w.heap.size A k c (sitV l1) (by rfl) (HV1.out _ HB0.out) (sitV_cell l1) k (Nat.zero_add k) (sitV l1) (List.nil_append _) (by have := HN.out; omega) (by have := HN.out; omega) HB0.out.size ?_; intro A1 k1 wc ho1 hg1; have hbn := (Below.refl _ _).grown hg1 (Nat.le_refl _) (by simp [Value.ownBlock]); replace HB0 := Lib.hid (HB0.out.trans (hbn.mono HB0.out.size)); have hP := trivial; have HO1 := Lib.hid ho1; clear hbn ho1 hg1
  refine hK.out _ _ hP (fun hHeld => ?_)
  clear hK K
  refine wpAnyH_ready (rs := [8]) (by kernel_rfl) (by simp) ?_
  refine AllReadyH.cons (List.getElem?_toArray.trans rfl) (fun K hK => ?_) AllReadyH.nil
  refine step_append_rows (by rfl) _ _ _ (by rfl) w.heap.size 36 i0 zz 2 16 Try.underlying30 HI0.out HZ0.out HSI.out HBI.out HZC.out (by omega) (.slice A1 k k1) k (sitV l1) (by rfl) HO1.out w.heap.size A2 (n - k2) (c - k2) (sitV l2) (by rfl) (HV2.out _ HB0.out) (sitV_cell l2) (n - 1) (by have := HN.out; omega) (sitV (l1 ++ l2)) (sitV_append l1 l2) (by have := HN.out; omega) (by have := HN.out; omega) HB0.out.size ?_; intro A3 k3 wd ho2 hg2; have hbo := HB0.out.grown hg2 HB0.out.size (fun q hq => (HO1.out.lt q hq).1); replace HB0 := Lib.hid hbo; have hP := trivial; have HO2 := Lib.hid ho2; clear hbo ho2 hg2
  refine hK.out _ _ hP (fun hHeld => ?_)
  clear hK K
  refine wpAnyH_take (i := 9) (v := ?_) (List.getElem?_toArray.trans rfl) (by kernel_rfl) (by kernel_rfl) (by kernel_rfl) (fun _ _ _ h => h) (Or.inl ⟨by rfl, ?_⟩) (by assumption) ?_
  case refine_2 => (intro w hSw; (try dsimp only at hSw); clear hSw; go_simp <;> with_reducible rfl)
  simp only [Act.put, List.setIfInBounds_toArray, List.set_cons_zero, List.set_cons_succ]
  refine wpAnyH_done (by kernel_rfl) ?_ _
  --W1>
  go_wp2_with fail
  go_ret
  exact ⟨_, rfl, by rw [HE.out]; exact SitRow.of_own HO2.out, HB0.out⟩
set_option maxHeartbeats 2000000 in
theorem victim24_any {A : Option Addr} {n c B : Nat} {l : List Ck.Sit} {w : World} (h : SitRow w B (.slice A n c) l) (hB : B ≤ w.heap.size) (hn : l.length ≤ 1000) (h0 : l ≠ []) :
    Calls Try.prog 12 #[.slice A n c] w fun e w' => ∃ v, e = .returned (.tuple #[.int .i64 (Ck.who l), v]) ∧ SitRow w' B v (Ck.vic l) ∧ Below w.heap.size w w' := by
  have HA := Lib.hid h
  have HBB := Lib.hid hB
  have HL := Lib.hid hn
  have HNE := Lib.hid h0
  obtain ⟨i0, zz, hi0, hz0, hz1, hz2, hz3⟩ := sit_parts
  have HI0 := Lib.hid hi0
  have HZ0 := Lib.hid hz0
  have HZC := Lib.hid hz1
  have HSI := Lib.hid hz2
  have HBI := Lib.hid hz3
  clear hi0 hz0 hz1 hz2 hz3 h hn hB h0
  go_enter Try.func12, Try.ntmps12
  go_wp2
  go_loopw [0, 4] (fun v u wr => ∃ (m : List Ck.Sit) (A1 : Option Addr) (n1 c1 i : Nat), v = .slice A1 n1 c1 ∧ u = .int .i64 i ∧ Hid (m ≠ [] ∧ m.length = l.length ∧ Ck.vic m = Ck.vic l ∧ i + Ck.marks m ≤ l.length) ∧ Hid (SitRow wr B (.slice A1 n1 c1) m) ∧ Hid (Below w.heap.size w wr)) (fun _ u _ => 1001 - (intOf u).toNat)
  case atStart => exact ⟨l, A, n, c, 0, rfl, rfl, Lib.hid ⟨HNE.out, rfl, rfl, by rw [Nat.zero_add]; exact List.countP_le_length⟩, HA, Lib.hid (Below.refl _ _)⟩
  case round =>
    clear HA HNE
    obtain ⟨m, A, n, c, i, rfl, rfl, HM, HA, HBW⟩ := hrel
    obtain ⟨hm0, hml, hmv, hmi⟩ := HM.out
    obtain ⟨o, b, r, rfl⟩ : ∃ o b r, m = (o, b) :: r := by
      cases m with
      | nil => exact absurd rfl hm0
      | cons p r => exact ⟨p.1, p.2, r, rfl⟩
    obtain ⟨hnl, hnc, hv⟩ := HA.out.cells
    obtain ⟨g, rfl, hgB, hgl, e1, e2, -⟩ := HA.out.at (k := 0) (by simp)
    rw [Nat.zero_mul] at e1 e2
    rw [Nat.zero_add] at e2
    have e1 : wr.cell? ⟨g, 0, none⟩ = some (.int .i64 o) := e1
    have e2 : wr.cell? ⟨g, 1, none⟩ = some (.bool b) := e2
    have hl9 : l.length ≤ 1000 := HL.out
    have hnp : 0 < n := by rw [hnl]; simp
    have d1 : decide ((i : Int) ≤ (n : Int)) = true := decide_eq_true (by omega)
    have d2 : decide (i ≤ n) = true := decide_eq_true (by omega)
    cases b with
    | false =>
      have hvs : Ck.vic l = (o, false) :: r := by rw [← hmv]; exact Ck.vic_stop o r
      have HW : Hid (Ck.who l = o) := Lib.hid (by unfold Ck.who; rw [hvs])
      have HVS := Lib.hid hvs
      clear hm0 hml hmv hmi hnl hnc hv hvs HM
      go_wp2
      go_ret2
      exact ⟨_, by rw [HW.out]; rfl, by rw [HVS.out]; exact HA.out, HBW.out⟩
    | true =>
      have hmt := Ck.marks_turn o r
      have HREL : Hid (Hid (r ++ [(o, false)] ≠ [] ∧ (r ++ [(o, false)]).length = l.length ∧ Ck.vic (r ++ [(o, false)]) = Ck.vic l ∧ (i + 1) + Ck.marks (r ++ [(o, false)]) ≤ l.length)) := Lib.hid (Lib.hid ⟨by simp, by simpa using hml, by rw [← Ck.vic_turn]; exact hmv, by omega⟩)
      have hs1 : ∀ w, (Instr.slice 30 (.slice (some ⟨g, 0, none⟩) n c) (some (.int .i64 1)) none none).run Try.prog w = .ok (.slice (restN (some ⟨g, 0, none⟩) c 1) (n - 1) (c - 1)) w := fun w => sit_rest (some ⟨g, 0, none⟩) n c 1 (by omega) w
      have HV1 : Hid (∀ W, Below wr.heap.size wr W → Vs W wr.heap.size (restN (some ⟨g, 0, none⟩) c 1) ((n - 1) * 2) (sitV r)) := Lib.hid fun W hb => (hv.backS (k := 1) (by omega) hnc).below hb
      have HPS : Hid (∀ W, Below wr.heap.size wr W → W.cell? ⟨g, 0, none⟩ = some (.int .i64 o)) := Lib.hid fun W hb => (hb.cell (p := ⟨g, 0, none⟩) hgl).trans e1
      have HN : Hid (n ≤ 1000 ∧ 0 < n) := Lib.hid ⟨by rw [hnl, hml]; exact hl9, hnp⟩
      have HI : Hid (i ≤ 1000) := Lib.hid (by omega)
      have HB0 := Lib.hid (Below.refl wr.heap.size wr).drew
      have hP := HPS.out _ HB0.out
      have hiw : i ≤ 1000 := by omega
      generalize restN (some ⟨g, 0, none⟩) c 1 = A2 at *
      clear hm0 hml hmv hmi hnl hnc hv HM hmt
      go_upto_region 5 with fail
      --V5<
      refine wp_region_held_drew (S := (fun W => W.cell? ⟨g, 0, none⟩ = some (.int .i64 o))) (by kernel_rfl) hP (fun hHeld => ?_)
      generalize wr.drew = wc at *
      refine wpAnyH_take (i := 0) (v := ?_) (List.getElem?_toArray.trans rfl) (by kernel_rfl) (by kernel_rfl) (by kernel_rfl) (fun _ _ _ h => h) (Or.inl ⟨by rfl, ?_⟩) (by assumption) ?_
      case refine_2 => (intro w hSw; (try dsimp only at hSw); clear hSw; go_simp <;> with_reducible rfl)
      simp only [Act.put, List.setIfInBounds_toArray, List.set_cons_zero, List.set_cons_succ]
      refine wpAnyH_take (i := 1) (v := ?_) (List.getElem?_toArray.trans rfl) (by kernel_rfl) (by kernel_rfl) (by kernel_rfl) (fun _ _ _ h => h) (Or.inl ⟨by rfl, ?_⟩) (by assumption) ?_
      case refine_2 => (intro w hSw; (try dsimp only at hSw); clear hSw; go_simp <;> with_reducible rfl)
      simp only [Act.put, List.setIfInBounds_toArray, List.set_cons_zero, List.set_cons_succ]
      refine wpAnyH_take (i := 3) (v := ?_) (List.getElem?_toArray.trans rfl) (by kernel_rfl) (by kernel_rfl) (by kernel_rfl) (fun _ _ _ h => h) (Or.inl ⟨by rfl, ?_⟩) (by assumption) ?_
      case refine_2 => (intro w hSw; (try dsimp only at hSw); clear hSw; go_simp <;> with_reducible rfl)
      simp only [Act.put, List.setIfInBounds_toArray, List.set_cons_zero, List.set_cons_succ]
      refine wpAnyH_take (i := 4) (v := ?_) (List.getElem?_toArray.trans rfl) (by kernel_rfl) (by kernel_rfl) (by kernel_rfl) (fun _ _ _ h => h) (Or.inl ⟨by rfl, ?_⟩) (by assumption) ?_
      case refine_2 => (intro w hSw; (try dsimp only at hSw); clear hSw; go_simp <;> with_reducible rfl)
      simp only [Act.put, List.setIfInBounds_toArray, List.set_cons_zero, List.set_cons_succ]
      refine wpAnyH_take (i := 5) (v := ?_) (List.getElem?_toArray.trans rfl) (by kernel_rfl) (by kernel_rfl) (by kernel_rfl) (fun _ _ _ h => h) (Or.inl ⟨by rfl, ?_⟩) (by assumption) ?_
      case refine_2 => (intro w hSw; (try dsimp only at hSw); clear hSw; go_simp <;> with_reducible rfl)
      simp only [Act.put, List.setIfInBounds_toArray, List.set_cons_zero, List.set_cons_succ]
      refine wpAnyH_take (i := 6) (v := ?_) (List.getElem?_toArray.trans rfl) (by kernel_rfl) (by kernel_rfl) (by kernel_rfl) (fun _ _ _ h => h) (Or.inl ⟨by rfl, ?_⟩) (by assumption) ?_
      case refine_2 => (intro w hSw; (try dsimp only at hSw); go_simp <;> with_reducible rfl)
      simp only [Act.put, List.setIfInBounds_toArray, List.set_cons_zero, List.set_cons_succ]
      refine wpAnyH_take (i := 7) (v := ?_) (List.getElem?_toArray.trans rfl) (by kernel_rfl) (by kernel_rfl) (by kernel_rfl) (fun _ _ _ h => h) (Or.inl ⟨by rfl, ?_⟩) (by assumption) ?_
      case refine_2 => (intro w hSw; (try dsimp only at hSw); clear hSw; go_simp <;> with_reducible rfl)
      simp only [Act.put, List.setIfInBounds_toArray, List.set_cons_zero, List.set_cons_succ]
      refine wpAnyH_ready (rs := [2, 8]) (by kernel_rfl) (by simp) ?_
      refine AllReadyH.cons (List.getElem?_toArray.trans rfl) (fun K hK => ?_) (AllReadyH.cons (List.getElem?_toArray.trans rfl) (fun K hK => ?_) AllReadyH.nil)
      · refine step_append_rows (by rfl) _ _ _ (by rfl) wr.heap.size 36 i0 zz 2 16 Try.underlying30 HI0.out HZ0.out HSI.out HBI.out HZC.out (by omega) (.slice none 0 0) 0 [] (by rfl) (World.ownsRow_nil _ _ _ _) wr.heap.size A2 (n - 1) (c - 1) (sitV r) (by rfl) (HV1.out _ HB0.out) (sitV_cell r) (n - 1) (Nat.zero_add _) (sitV r) (List.nil_append _) (by have := HN.out; omega) (by have := HN.out; omega) HB0.out.size ?_; intro A1 k1 wc ho1 hg1; have hbn := (Below.refl _ _).grown hg1 (Nat.le_refl _) (by simp [Value.ownBlock]); replace HB0 := Lib.hid (HB0.out.trans (hbn.mono HB0.out.size)); have hP := HPS.out _ HB0.out; (try replace HO1 := Lib.hid (own_belowN HO1.out hbn)); (try replace HVB := Lib.hid ((Vs.below HVB.out hbn).mono hbn.size)); have HO1 := Lib.hid ho1; clear hbn ho1 hg1
        refine hK.out _ _ hP (fun hHeld => ?_)
        clear hK K
        refine wpAnyH_ready (rs := [8]) (by kernel_rfl) (by simp) ?_
        refine AllReadyH.cons (List.getElem?_toArray.trans rfl) (fun K hK => ?_) AllReadyH.nil
        go_simp; have hbn := (Below.refl wc.heap.size wc).alloc (Nat.le_refl _) (.cells #[.int .i64 o, .bool false] 36); have hvb := (Vs.new wc 36 (0, 0) #[.int .i64 o, .bool false]).mono (B' := (wc.alloc (.cells #[.int .i64 o, .bool false] 36)).heap.size) (by simp); replace HB0 := Lib.hid (HB0.out.trans (hbn.mono HB0.out.size)); have hP := HPS.out _ HB0.out; (try replace HO1 := Lib.hid (own_belowN HO1.out hbn)); (try replace HVB := Lib.hid ((Vs.below HVB.out hbn).mono hbn.size)); have HVB := Lib.hid hvb; clear hbn hvb; generalize wc.alloc (.cells #[.int .i64 o, .bool false] 36) = wc at *
        refine hK.out _ _ hP (fun hHeld => ?_)
        clear hK K
        refine wpAnyH_ready (rs := [9]) (by kernel_rfl) (by simp) ?_
        refine AllReadyH.cons (List.getElem?_toArray.trans rfl) (fun K hK => ?_) AllReadyH.nil
        refine step_append_rows (by rfl) _ _ _ (by rfl) wr.heap.size 36 i0 zz 2 16 Try.underlying30 HI0.out HZ0.out HSI.out HBI.out HZC.out (by omega) (.slice A1 (n - 1) k1) (n - 1) (sitV r) (by rfl) HO1.out _ _ 1 1 (sitV [(o, false)]) (by rfl) (by rw [Nat.one_mul]; simpa [sitV, sitC] using HVB.out) (sitV_cell _) n (by have := HN.out; omega) (sitV (r ++ [(o, false)])) (sitV_append _ _) (by have := HN.out; omega) (by have := HN.out; omega) HB0.out.size ?_; intro A3 k3 wd ho2 hg2; have hbo := HB0.out.grown hg2 HB0.out.size (fun q hq => (HO1.out.lt q hq).1); have hP := HPS.out _ hbo; replace HB0 := Lib.hid hbo; have HO2 := Lib.hid ho2; clear hbo ho2 hg2
        refine hK.out _ _ hP (fun hHeld => ?_)
        clear hK K
        refine wpAnyH_take (i := 10) (v := ?_) (List.getElem?_toArray.trans rfl) (by kernel_rfl) (by kernel_rfl) (by kernel_rfl) (fun _ _ _ h => h) (Or.inl ⟨by rfl, ?_⟩) (by assumption) ?_
        case refine_2 => (intro w hSw; (try dsimp only at hSw); clear hSw; go_simp <;> with_reducible rfl)
        simp only [Act.put, List.setIfInBounds_toArray, List.set_cons_zero, List.set_cons_succ]
        refine wpAnyH_done (by kernel_rfl) ?_ _
        go_wp2_with fail
        go_roundw
        case rel => exact ⟨r ++ [(o, false)], A3, n, k3, i + 1, rfl, by go_num, HREL.out, Lib.hid ((SitRow.of_own HO2.out).mono (Nat.le_trans HBB.out HBW.out.size)), Lib.hid (HBW.out.trans (HB0.out.mono HBW.out.size))⟩
        case measure => simp [intOf]; have := HI.out; omega
      · go_simp; have hbn := (Below.refl wc.heap.size wc).alloc (Nat.le_refl _) (.cells #[.int .i64 o, .bool false] 36); have hvb := (Vs.new wc 36 (0, 0) #[.int .i64 o, .bool false]).mono (B' := (wc.alloc (.cells #[.int .i64 o, .bool false] 36)).heap.size) (by simp); replace HB0 := Lib.hid (HB0.out.trans (hbn.mono HB0.out.size)); have hP := HPS.out _ HB0.out; (try replace HO1 := Lib.hid (own_belowN HO1.out hbn)); (try replace HVB := Lib.hid ((Vs.below HVB.out hbn).mono hbn.size)); have HVB := Lib.hid hvb; clear hbn hvb; generalize wc.alloc (.cells #[.int .i64 o, .bool false] 36) = wc at *
        refine hK.out _ _ hP (fun hHeld => ?_)
        clear hK K
        refine wpAnyH_ready (rs := [2]) (by kernel_rfl) (by simp) ?_
        refine AllReadyH.cons (List.getElem?_toArray.trans rfl) (fun K hK => ?_) AllReadyH.nil
        refine step_append_rows (by rfl) _ _ _ (by rfl) wr.heap.size 36 i0 zz 2 16 Try.underlying30 HI0.out HZ0.out HSI.out HBI.out HZC.out (by omega) (.slice none 0 0) 0 [] (by rfl) (World.ownsRow_nil _ _ _ _) wr.heap.size A2 (n - 1) (c - 1) (sitV r) (by rfl) (HV1.out _ HB0.out) (sitV_cell r) (n - 1) (Nat.zero_add _) (sitV r) (List.nil_append _) (by have := HN.out; omega) (by have := HN.out; omega) HB0.out.size ?_; intro A1 k1 wc ho1 hg1; have hbn := (Below.refl _ _).grown hg1 (Nat.le_refl _) (by simp [Value.ownBlock]); replace HB0 := Lib.hid (HB0.out.trans (hbn.mono HB0.out.size)); have hP := HPS.out _ HB0.out; (try replace HO1 := Lib.hid (own_belowN HO1.out hbn)); (try replace HVB := Lib.hid ((Vs.below HVB.out hbn).mono hbn.size)); have HO1 := Lib.hid ho1; clear hbn ho1 hg1
        refine hK.out _ _ hP (fun hHeld => ?_)
        clear hK K
        refine wpAnyH_ready (rs := [9]) (by kernel_rfl) (by simp) ?_
        refine AllReadyH.cons (List.getElem?_toArray.trans rfl) (fun K hK => ?_) AllReadyH.nil
        refine step_append_rows (by rfl) _ _ _ (by rfl) wr.heap.size 36 i0 zz 2 16 Try.underlying30 HI0.out HZ0.out HSI.out HBI.out HZC.out (by omega) (.slice A1 (n - 1) k1) (n - 1) (sitV r) (by rfl) HO1.out _ _ 1 1 (sitV [(o, false)]) (by rfl) (by rw [Nat.one_mul]; simpa [sitV, sitC] using HVB.out) (sitV_cell _) n (by have := HN.out; omega) (sitV (r ++ [(o, false)])) (sitV_append _ _) (by have := HN.out; omega) (by have := HN.out; omega) HB0.out.size ?_; intro A3 k3 wd ho2 hg2; have hbo := HB0.out.grown hg2 HB0.out.size (fun q hq => (HO1.out.lt q hq).1); have hP := HPS.out _ hbo; replace HB0 := Lib.hid hbo; have HO2 := Lib.hid ho2; clear hbo ho2 hg2
        refine hK.out _ _ hP (fun hHeld => ?_)
        clear hK K
        refine wpAnyH_take (i := 10) (v := ?_) (List.getElem?_toArray.trans rfl) (by kernel_rfl) (by kernel_rfl) (by kernel_rfl) (fun _ _ _ h => h) (Or.inl ⟨by rfl, ?_⟩) (by assumption) ?_
        case refine_2 => (intro w hSw; (try dsimp only at hSw); clear hSw; go_simp <;> with_reducible rfl)
        simp only [Act.put, List.setIfInBounds_toArray, List.set_cons_zero, List.set_cons_succ]
        refine wpAnyH_done (by kernel_rfl) ?_ _
        go_wp2_with fail
        go_roundw
        case rel => exact ⟨r ++ [(o, false)], A3, n, k3, i + 1, rfl, by go_num, HREL.out, Lib.hid ((SitRow.of_own HO2.out).mono (Nat.le_trans HBB.out HBW.out.size)), Lib.hid (HBW.out.trans (HB0.out.mono HBW.out.size))⟩
        case measure => simp [intOf]; have := HI.out; omega
      --V5>
end Go.Proofs.Ytlhkcfhhgcmieaa
