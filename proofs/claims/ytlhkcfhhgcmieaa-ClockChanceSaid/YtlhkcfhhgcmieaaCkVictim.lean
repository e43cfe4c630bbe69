/-
  The landed ring: Victim (a loop by goto).
-/
import Derived.Test.YtlhkcfhhgcmieaaCkHas
import Derived.WalkMore
import Derived.ScopeJumps
namespace Go.Proofs.Ytlhkcfhhgcmieaa
open Go.ChangeShapes Go.WideShapes Go.ChangeAt Go.RowKit
set_option maxRecDepth 100000

theorem wp_scope_from {P : Program} {a : Act} {w : World} {Q : Exit → Act → World → Prop} {c rest : Code} (l : Nat) (J : Act → World → Prop) (μ : Act → World → Nat) (hf : findLabel c l = some (Code.skip.seq rest))
    (pass : ∀ a w, J a w → rest.wp P (Exit.jump l (fun a' w' => J a' w' ∧ μ a' w' < μ a w) Q) a w)
    (first : (∀ a w, J a w → rest.wp P (Exit.jump l J Q) a w) → c.wp P (Exit.jump l J Q) a w) : (Code.scope c).wp P Q a w :=
  wp_scope_jumps l J μ hf (first fun a w h => wp_mono (pass a w h) (fun e a w hq => by cases e <;> first | exact hq | exact ⟨hq.1, hq.2.1⟩)) (fun a w h => wp_seq (wp_skip (pass a w h)))
theorem jump_ret {a : Act} {w : World} {Q : Exit → Act → World → Prop} {l : Nat} {J : Act → World → Prop} (h : Q .ret a w) : Exit.jump l J Q .ret a w := h
/-- how many cells are true -/
def isTrue : Value → Bool
  | .bool true => true
  | _ => false
def trues (W : World) (b : Nat) : Nat := match W.heap[b]? with
  | some (.cells cs _ _) => cs.toList.countP isTrue
  | _ => 0
theorem trues_sit : ∀ m : List Ck.Sit, (sitV m).countP isTrue = Ck.marks m
  | [] => rfl
  | (o, b) :: m => by
    have ih := trues_sit m
    rw [sitV_cons, List.countP_cons, List.countP_cons, ih]
    cases b <;> simp [isTrue, Ck.marks]
theorem marks_pad (m : List Ck.Sit) : Ck.marks (pad m) = Ck.marks m := by
  unfold pad Ck.marks
  rw [List.countP_append, List.countP_replicate]
  simp
theorem trues_ring {W : World} {b : Nat} {T : TypeId} {m : List Ck.Sit} (h : Bx W b T (ringC m)) : trues W b = Ck.marks m := by
  unfold trues
  rw [h]
  show (ringC m).countP isTrue = _
  unfold ringC rawC
  rw [List.countP_append, trues_sit, marks_pad]
  rfl
/-- what Victim answers: three results, one of them in a cell -/
theorem res_victim {U : World} {tm : Array Value} {b : Nat} {cs : List Value} {x y : Value} (h2 : tm.getD 2 undef = x) (h3 : tm.getD 3 undef = .pointer (some ⟨b, 0, none⟩)) (h4 : tm.getD 4 undef = y) (hr : U.rangeAt b 0 cs) (hl : cs.length = 33) :
    (results Try.f11 tm).run Try.prog U = .ok (.tuple #[x, .agg cs.toArray, y]) U := by
  have g2 : tm[2]?.getD undef = x := by simpa using h2
  have g3 : tm[3]?.getD undef = .pointer (some ⟨b, 0, none⟩) := by simpa using h3
  have g4 : tm[4]?.getD undef = y := by simpa using h4
  have hl := run_loadVar_mid (P := Try.prog) U b 0 28 cs _ hr Try.underlying28 (by rfl) (by rw [ring_size, hl])
  simp [results, Try.results11, g2, g3, g4, asAddr, hl]
set_option maxHeartbeats 4000000 in
theorem victim_any {l : List Ck.Sit} (hl : l.length ≤ 16) (w : World) : Calls Try.prog 11 #[ringV l] w fun e w' => e = .returned (.tuple #[.int .i64 (Ck.who l), ringV (Ck.vic l), .bool (decide (l ≠ []))]) ∧ Below w.heap.size w w' := by
  have hz := ring_zero
  obtain ⟨wz, hwz⟩ : ∃ wz, wz = (w.alloc (.cells (ringC l).toArray 28)).alloc (.cells (ringC []).toArray 28) := ⟨_, rfl⟩
  obtain ⟨hb1, hb2, hbw⟩ := two_boxes hwz
  have HWZ := Lib.hid hwz
  have HQ : Hid (RingOut w wz.drew (w.heap.size + 1) (ringC l)) := Lib.hid (RingOut.mk' hl hb2 (ringC_length (by simp)) hbw.drew (by omega))
  have HRC : Hid (wz.drew.rangeAt w.heap.size 0 (ringC l)) := Lib.hid hb1.range
  have HSZ : Hid ((Try.prog.info? 28).map (·.size) = some (ringC l).length) := Lib.hid (by rw [ring_size, ringC_length hl])
  have HX1 := Lib.hid hb1
  have HX2 := Lib.hid hb2
  have HXW := Lib.hid hbw
  have HVIC : Hid (l ≠ [] → ∃ r, Ck.vic l = (Ck.who l, false) :: r) := Lib.hid Ck.vic_head
  have HVL : Hid ((Ck.vic l).length ≤ 16) := Lib.hid (by rw [Ck.vic_length]; exact hl)
  have hc0 : wz.cell? ⟨w.heap.size, 32, none⟩ = some (.int .i64 (l.length : Int)) := by rw [hb1.at, ring_end hl]
  have HL := Lib.hid hl
  have HZL : Hid ((ringC []).length = 33) := Lib.hid (ringC_length (by simp))
  have HNIL : Hid (l = [] → ringC (Ck.vic l) = ringC l ∧ Ck.who l = 0) := Lib.hid fun h => by subst h; exact ⟨rfl, rfl⟩
  unfold ringV
  clear hb1 hb2 hbw hwz hl
  generalize ringC [] = z0 at *
  obtain ⟨cs, hcs⟩ : ∃ cs, cs = ringC l := ⟨_, rfl⟩
  rw [← hcs] at HQ HRC HSZ HX1 HWZ HNIL ⊢
  have HCS := Lib.hid hcs
  clear hcs
  go_enter Try.func11, Try.ntmps11
  go_upto_region 1 with fail
  rw [← HWZ.out]
  refine wp_scope_from 0 (fun a' w' => ∃ (m : List Ck.Sit) (u5 u10 u11 u12 u13 u14 u15 u16 u17 u18 u19 u20 : Value), a' = { tmps := #[.agg cs.toArray, .pointer (some ⟨w.heap.size, 0, none⟩), .int .i64 0, .pointer (some ⟨w.heap.size + 1, 0, none⟩), .bool false, u5, .pointer (some ⟨w.heap.size, 32, none⟩), .int .i64 (l.length : Int), .bool false, undef, u10, u11, u12, u13, u14, u15, u16, u17, u18, u19, u20, undef, undef, undef], defers := [] } ∧ Hid (m ≠ [] ∧ m.length ≤ 16 ∧ Ck.vic m = Ck.vic l) ∧ Hid (Bx w' w.heap.size 28 (ringC m)) ∧ Hid (Bx w' (w.heap.size + 1) 28 z0) ∧ Hid (Below w.heap.size w w')) (fun _ w' => trues w' w.heap.size) rfl ?_ ?_
  · rintro a1 w1 ⟨m, u5, u10, u11, u12, u13, u14, u15, u16, u17, u18, u19, u20, rfl, HM, HX, HY, HB⟩
    clear HQ HRC HSZ HX1 HX2 HXW hc0 HWZ HNIL
    obtain ⟨hm0, hml, hmv⟩ := HM.out
    obtain ⟨o, b, r, rfl⟩ : ∃ o b r, m = (o, b) :: r := by
      cases m with
      | nil => exact absurd rfl hm0
      | cons p r => exact ⟨p.1, p.2, r, rfl⟩
    have g0 := ring_get (l := (o, b) :: r) (k := 0) (by simp)
    have e0 : w1.cell? ⟨w.heap.size, 0, none⟩ = some (.int .i64 o) := (HX.out.at 0).trans g0.1
    have e1 : w1.cell? ⟨w.heap.size, 1, none⟩ = some (.bool b) := (HX.out.at 1).trans g0.2
    obtain ⟨q, hq⟩ : ∃ q, q = w1.heap.size := ⟨_, rfl⟩
    obtain ⟨w2, hw2⟩ : ∃ w2, w2 = w1.alloc (.cells #[.int .i64 o, .bool b] 25) := ⟨_, rfl⟩
    have hq0 : Bx w2 q 25 [.int .i64 o, .bool b] := by rw [hw2, hq]; exact Bx.new w1 [.int .i64 o, .bool b] _
    have hlq : w.heap.size + 1 < q := by rw [hq]; exact HY.out.lt
    have hx2 : Bx w2 w.heap.size 28 (ringC ((o, b) :: r)) := by rw [hw2]; exact HX.out.alloc _
    have hy2 : Bx w2 (w.heap.size + 1) 28 z0 := by rw [hw2]; exact HY.out.alloc _
    have hbb : Below w.heap.size w w2 := by rw [hw2]; exact HB.out.alloc HB.out.size _
    have hP : w2.drew.cell? ⟨q, 0, none⟩ = some (.int .i64 o) := hq0.at 0
    have hb5 : w2.cell? ⟨q, 1, none⟩ = some (.bool b) := hq0.at 1
    have HW2 : Hid (Below w2.heap.size w2 w2.drew) := Lib.hid (Below.refl _ _).drew
    have HPQ : Hid (∀ W, Below w2.heap.size w2 W → W.cell? ⟨q, 0, none⟩ = some (.int .i64 o)) := Lib.hid fun W h => ((hq0.below h hq0.lt).at 0)
    have HRM : Hid (w2.drew.rangeAt w.heap.size 0 (ringC ((o, b) :: r))) := Lib.hid hx2.range
    have HSZ : Hid ((Try.prog.info? 28).map (·.size) = some (ringC ((o, b) :: r)).length) := Lib.hid (by rw [ring_size, ringC_length hml])
    have HW : Hid (w2 = w1.alloc (.cells #[.int .i64 o, .bool b] 25)) := Lib.hid hw2
    cases b with
    | true =>
      have hvt := Ck.vic_turn o r
      have hmt := Ck.marks_turn o r
      have hnl : (r ++ [(o, false)]).length ≤ 16 := by simpa using hml
      have cwo : ∀ W, Calls Try.prog 21 #[.agg (ringC ((o, true) :: r)).toArray, .int .i64 0] W fun e w' => e = .returned (.agg (ringC r).toArray) ∧ Below W.heap.size W w' := fun W => without_any (l := (o, true) :: r) hml (k := 0) (by simp) W
      have cwi : ∀ W, Calls Try.prog 22 #[.agg (ringC r).toArray, .agg #[.int .i64 o, .bool false]] W fun e w' => e = .returned (.agg (ringC (r ++ [(o, false)])).toArray) ∧ Below W.heap.size W w' := fun W => with_any (l := r) (by simp at hml; omega) (o, false) W
      have HEND : Hid (∀ W, Below w2.heap.size w2 W → W.there w.heap.size 0 (ringC (r ++ [(o, false)])).toArray.size ∧ (W.setCells w.heap.size 0 (ringC (r ++ [(o, false)]))).cell? ⟨q, 0, none⟩ = some (.int .i64 o) ∧ Bx (W.setCells w.heap.size 0 (ringC (r ++ [(o, false)]))) w.heap.size 28 (ringC (r ++ [(o, false)])) ∧ Bx (W.setCells w.heap.size 0 (ringC (r ++ [(o, false)]))) (w.heap.size + 1) 28 z0 ∧ Below w.heap.size w (W.setCells w.heap.size 0 (ringC (r ++ [(o, false)])))) := Lib.hid fun W h => by
        have k1 := hx2.below h hx2.lt
        have k2 := hy2.below h hy2.lt
        have k3 := hq0.below h hq0.lt
        have k4 : Bx (W.setCells w.heap.size 0 (ringC (r ++ [(o, false)]))) q 25 [.int .i64 o, .bool true] := (heap_setCells _ _ _ _ _ (by omega)).trans k3
        refine ⟨k1.there (by simp [ringC_length hnl, ringC_length hml]), k4.at 0, ?_, (heap_setCells _ _ _ _ _ (by omega)).trans k2, below_sets _ _ _ _ (Nat.le_refl _) (hbb.trans (h.mono hbb.size))⟩
        have h1 := setCells_bx w.heap.size 28 (ringC (r ++ [(o, false)])) (ringC ((o, true) :: r)) [] [] W (by rw [ringC_length hnl, ringC_length hml]) (by simpa using k1)
        simpa using h1
      have HSN : Hid ((Try.prog.info? 28).map (·.size) = some (ringC (r ++ [(o, false)])).toArray.size) := Lib.hid (by rw [ring_size]; simp [ringC_length hnl])
      have HON := Lib.hid (all_oneCell_toArray (ringC_cell (r ++ [(o, false)])))
      have HTR : Hid (trues w1 w.heap.size = Ck.marks (r ++ [(o, false)]) + 1) := Lib.hid (by rw [trues_ring HX.out, hmt])
      have HTN : Hid (∀ W, Bx W w.heap.size 28 (ringC (r ++ [(o, false)])) → trues W w.heap.size = Ck.marks (r ++ [(o, false)])) := Lib.hid fun W h => trues_ring h
      have HOK : Hid (r ++ [(o, false)] ≠ [] ∧ (r ++ [(o, false)]).length ≤ 16 ∧ Ck.vic (r ++ [(o, false)]) = Ck.vic l) := Lib.hid ⟨by simp, hnl, by rw [← hvt]; exact hmv⟩
      have HCN : Hid (∃ cn, cn = ringC (r ++ [(o, false)])) := Lib.hid ⟨_, rfl⟩
      obtain ⟨cn, hcn⟩ := HCN.out
      rw [← hcn] at cwi HEND HSN HON HTN
      have HCN := Lib.hid hcn
      generalize ringC ((o, true) :: r) = cm at *
      generalize ringC r = cr at *
      clear hcn hvt hmt hnl hml hmv hm0 HM HX HY HB hq0 hx2 hy2 hbb hw2 g0
      have hW : w1.alloc (.cells #[.int .i64 o, .bool true] 25) = w2 := HW.out.symm
      subst hq
      go_upto_region 5 with fail
      --R5<
      refine wp_region_held_drew (S := (fun W => W.cell? ⟨w1.heap.size, 0, none⟩ = some (.int .i64 o))) (by kernel_rfl) hP (fun hHeld => ?_)
      refine wpAnyH_take (i := 2) (v := ?_) (List.getElem?_toArray.trans rfl) (by kernel_rfl) (by kernel_rfl) (by kernel_rfl) (fun _ _ _ h => h) (Or.inl ⟨by rfl, ?_⟩) (by assumption) ?_
      case refine_2 => (intro w hSw; (try dsimp only at hSw); clear hSw; go_simp <;> with_reducible rfl)
      simp only [Act.put, List.setIfInBounds_toArray, List.set_cons_zero, List.set_cons_succ]
      refine wpAnyH_take (i := 3) (v := ?_) (List.getElem?_toArray.trans rfl) (by kernel_rfl) (by kernel_rfl) (by kernel_rfl) (fun _ _ _ h => h) (Or.inl ⟨by rfl, ?_⟩) (by assumption) ?_
      case refine_2 => (intro w hSw; (try dsimp only at hSw); go_simp <;> with_reducible rfl)
      simp only [Act.put, List.setIfInBounds_toArray, List.set_cons_zero, List.set_cons_succ]
      refine wpAnyH_take (i := 4) (v := ?_) (List.getElem?_toArray.trans rfl) (by kernel_rfl) (by kernel_rfl) (by kernel_rfl) (fun _ _ _ h => h) (Or.inl ⟨by rfl, ?_⟩) (by assumption) ?_
      case refine_2 => (intro w hSw; (try dsimp only at hSw); clear hSw; go_simp <;> with_reducible rfl)
      simp only [Act.put, List.setIfInBounds_toArray, List.set_cons_zero, List.set_cons_succ]
      refine wpAnyH_ready (rs := [0]) (by kernel_rfl) (by simp) ?_
      refine AllReadyH.cons (List.getElem?_toArray.trans rfl) (fun K hK => ?_) AllReadyH.nil
      rw [if_pos (by rfl)]; refine wp_load_mid 28 (.tmp 1) (by rfl) w.heap.size 0 (by rfl) cm _ HRM.out Try.underlying28 (by rfl) HSZ.out ?_
      refine hK.out _ _ hP (fun hHeld => ?_)
      clear hK K
      refine wpAnyH_ready (rs := [1]) (by kernel_rfl) (by simp) ?_
      refine AllReadyH.cons (List.getElem?_toArray.trans rfl) (fun K hK => ?_) AllReadyH.nil
      go_simp
      go_at_call 21; (with_reducible refine (cwo _).mono ?_); rintro e w3 ⟨rfl, hb3⟩; have HB3 := Lib.hid (HW2.out.trans (hb3.mono HW2.out.size)); have hP := HPQ.out _ HB3.out; clear hb3
      refine hK.out _ _ hP (fun hHeld => ?_)
      clear hK K
      refine wpAnyH_ready (rs := [5]) (by kernel_rfl) (by simp) ?_
      refine AllReadyH.cons (List.getElem?_toArray.trans rfl) (fun K hK => ?_) AllReadyH.nil
      go_simp
      go_at_call 22; (with_reducible refine (cwi _).mono ?_); rintro e w4 ⟨rfl, hb4⟩; have HB4 := Lib.hid (HB3.out.trans (hb4.mono HB3.out.size)); have hP := HPQ.out _ HB4.out; have HQ := Lib.hid (HEND.out _ HB4.out); clear hb4
      refine hK.out _ _ hP (fun hHeld => ?_)
      clear hK K
      refine wpAnyH_ready (rs := [6]) (by kernel_rfl) (by simp) ?_
      refine AllReadyH.cons (List.getElem?_toArray.trans rfl) (fun K hK => ?_) AllReadyH.nil
      rw [if_pos (by rfl)]; refine wp_store_mid 28 (.tmp 1) (.tmp 20) (by rfl) w.heap.size 0 cn.toArray (by rfl) (by rfl) HQ.out.1 HSN.out HON.out ?_; rw [List.toList_toArray]; have hP := HQ.out.2.1
      refine hK.out _ _ hP (fun hHeld => ?_)
      clear hK K
      refine wpAnyH_done (by kernel_rfl) ?_ _
      --R5>
      go_wp2_with fail
      go_step3
      exact ⟨rfl, ⟨r ++ [(o, false)], _, _, _, _, _, _, _, _, _, _, _, _, rfl, HOK, by rw [← HCN.out]; exact HQ.out.2.2.1, HQ.out.2.2.2.1, HQ.out.2.2.2.2⟩, by rw [HTN.out _ HQ.out.2.2.1, HTR.out]; omega⟩
    | false =>
      have hvs : Ck.vic l = (o, false) :: r := by rw [← hmv]; exact Ck.vic_stop o r
      have hln : l ≠ [] := fun h => by rw [h] at hvs; cases hvs
      have hwho : Ck.who l = o := by
        obtain ⟨r', e⟩ := HVIC.out hln
        rw [hvs] at e
        injection e with e _
        injection e with e _
        exact e.symm
      have HR : Hid (Value.tuple #[.int .i64 (Ck.who l), .agg (ringC (Ck.vic l)).toArray, .bool (decide (l ≠ []))] = .tuple #[.int .i64 o, .agg (ringC ((o, false) :: r)).toArray, .bool true]) := Lib.hid (by rw [hvs, hwho, decide_eq_true hln])
      have HQ : Hid (RingOut w w2.drew (w.heap.size + 1) (ringC ((o, false) :: r))) := Lib.hid (RingOut.mk' hml hy2 HZL.out hbb.drew (by omega))
      have HPS : Hid ((w2.drew.setCells (w.heap.size + 1) 0 (ringC ((o, false) :: r))).cell? ⟨q, 0, none⟩ = some (.int .i64 o)) := Lib.hid (by
        have k4 : Bx (w2.drew.setCells (w.heap.size + 1) 0 (ringC ((o, false) :: r))) q 25 [.int .i64 o, .bool false] := (heap_setCells _ _ _ _ _ (by omega)).trans hq0
        exact k4.at 0)
      clear hmv hml hm0 HM HX HY HB hq0 hx2 hy2 hbb hw2 g0 hvs hln hwho HVIC
      generalize ringC ((o, false) :: r) = cm at *
      subst hq
      go_upto_region 6 with fail
      rw [← HW.out]
      --R6<
      refine wp_region_held_drew (S := (fun W => W.cell? ⟨w1.heap.size, 0, none⟩ = some (.int .i64 o))) (by kernel_rfl) hP (fun hHeld => ?_)
      refine wpAnyH_take (i := 0) (v := ?_) (List.getElem?_toArray.trans rfl) (by kernel_rfl) (by kernel_rfl) (by kernel_rfl) (fun _ _ _ h => h) (Or.inl ⟨by rfl, ?_⟩) (by assumption) ?_
      case refine_2 => (intro w hSw; (try dsimp only at hSw); clear hSw; go_simp <;> with_reducible rfl)
      simp only [Act.put, List.setIfInBounds_toArray, List.set_cons_zero, List.set_cons_succ]
      refine wpAnyH_take (i := 1) (v := ?_) (List.getElem?_toArray.trans rfl) (by kernel_rfl) (by kernel_rfl) (by kernel_rfl) (fun _ _ _ h => h) (Or.inl ⟨by rfl, ?_⟩) (by assumption) ?_
      case refine_2 => (intro w hSw; (try dsimp only at hSw); go_simp <;> with_reducible rfl)
      simp only [Act.put, List.setIfInBounds_toArray, List.set_cons_zero, List.set_cons_succ]
      refine wpAnyH_take (i := 3) (v := ?_) (List.getElem?_toArray.trans rfl) (by kernel_rfl) (by kernel_rfl) (by kernel_rfl) (fun _ _ _ h => h) (Or.inl ⟨by rfl, ?_⟩) (by assumption) ?_
      case refine_2 => (intro w hSw; (try dsimp only at hSw); clear hSw; go_simp <;> with_reducible rfl)
      simp only [Act.put, List.setIfInBounds_toArray, List.set_cons_zero, List.set_cons_succ]
      refine wpAnyH_ready (rs := [2]) (by kernel_rfl) (by simp) ?_
      refine AllReadyH.cons (List.getElem?_toArray.trans rfl) (fun K hK => ?_) AllReadyH.nil
      rw [if_pos (by rfl)]; refine wp_load_mid 28 (.tmp 1) (by rfl) w.heap.size 0 (by rfl) cm _ HRM.out Try.underlying28 (by rfl) HSZ.out ?_
      refine hK.out _ _ hP (fun hHeld => ?_)
      clear hK K
      refine wpAnyH_ready (rs := [4]) (by kernel_rfl) (by simp) ?_
      refine AllReadyH.cons (List.getElem?_toArray.trans rfl) (fun K hK => ?_) AllReadyH.nil
      rw [if_pos (by rfl)]; refine wp_store_mid 28 (.tmp 3) (.tmp 23) (by rfl) (w.heap.size + 1) 0 cm.toArray (by rfl) (by rfl) HQ.out.there HQ.out.size HQ.out.one ?_; rw [List.toList_toArray]; have hP := HPS.out
      refine hK.out _ _ hP (fun hHeld => ?_)
      clear hK K
      refine wpAnyH_take (i := 5) (v := ?_) (List.getElem?_toArray.trans rfl) (by kernel_rfl) (by kernel_rfl) (by kernel_rfl) (fun _ _ _ h => h) (Or.inl ⟨by rfl, ?_⟩) (by assumption) ?_
      case refine_2 => (intro w hSw; (try dsimp only at hSw); clear hSw; go_simp <;> with_reducible rfl)
      simp only [Act.put, List.setIfInBounds_toArray, List.set_cons_zero, List.set_cons_succ]
      refine wpAnyH_done (by kernel_rfl) ?_ _
      --R6>
      go_wp2_with fail
      refine jump_ret ?_
      exact bodyPost_ret (res_victim (by rfl) (by rfl) (by rfl) HQ.out.range HQ.out.len) rfl ⟨by rw [HR.out]; rfl, HQ.out.below⟩
  · intro hrest
    by_cases hl0 : l = []
    · obtain ⟨h1, h2⟩ := HNIL.out hl0
      have hd : decide (l ≠ []) = false := decide_eq_false (fun h => h hl0)
      have HR : Hid (Value.tuple #[.int .i64 (Ck.who l), .agg (ringC (Ck.vic l)).toArray, .bool (decide (l ≠ []))] = .tuple #[.int .i64 0, .agg cs.toArray, .bool false]) := Lib.hid (by rw [h1, h2, hd])
      have hc1 : wz.cell? ⟨w.heap.size, 32, none⟩ = some (.int .i64 0) := by rw [hc0, hl0]; rfl
      clear hrest hc0 HNIL HL hl0 hd h1 h2
      go_upto_region 2 with fail
      --R2<
      refine wp_region_held_drew (S := (fun _ => True)) (by kernel_rfl) trivial (fun hHeld => ?_)
      refine wpAnyH_take (i := 1) (v := ?_) (List.getElem?_toArray.trans rfl) (by kernel_rfl) (by kernel_rfl) (by kernel_rfl) (fun _ _ _ h => h) (Or.inl ⟨by rfl, ?_⟩) (by assumption) ?_
      case refine_2 => (intro w hSw; (try dsimp only at hSw); clear hSw; go_simp <;> with_reducible rfl)
      simp only [Act.put, List.setIfInBounds_toArray, List.set_cons_zero, List.set_cons_succ]
      refine wpAnyH_ready (rs := [0]) (by kernel_rfl) (by simp) ?_
      refine AllReadyH.cons (List.getElem?_toArray.trans rfl) (fun K hK => ?_) AllReadyH.nil
      rw [if_pos (by rfl)]; refine wp_load_mid 28 (.tmp 1) (by rfl) w.heap.size 0 (by rfl) cs _ HRC.out Try.underlying28 (by rfl) HSZ.out ?_; have hP := trivial
      refine hK.out _ _ hP (fun hHeld => ?_)
      clear hK K
      refine wpAnyH_ready (rs := [2]) (by kernel_rfl) (by simp) ?_
      refine AllReadyH.cons (List.getElem?_toArray.trans rfl) (fun K hK => ?_) AllReadyH.nil
      rw [if_pos (by rfl)]; refine wp_store_mid 28 (.tmp 3) (.tmp 9) (by rfl) (w.heap.size + 1) 0 cs.toArray (by rfl) (by rfl) HQ.out.there HQ.out.size HQ.out.one ?_; rw [List.toList_toArray]; have hP := trivial
      refine hK.out _ _ hP (fun hHeld => ?_)
      clear hK K
      refine wpAnyH_take (i := 3) (v := ?_) (List.getElem?_toArray.trans rfl) (by kernel_rfl) (by kernel_rfl) (by kernel_rfl) (fun _ _ _ h => h) (Or.inl ⟨by rfl, ?_⟩) (by assumption) ?_
      case refine_2 => (intro w hSw; (try dsimp only at hSw); clear hSw; go_simp <;> with_reducible rfl)
      simp only [Act.put, List.setIfInBounds_toArray, List.set_cons_zero, List.set_cons_succ]
      refine wpAnyH_done (by kernel_rfl) ?_ _
      --R2>
      go_wp2_with fail
      refine jump_ret ?_
      exact bodyPost_ret (res_victim (by rfl) (by rfl) (by rfl) HQ.out.range HQ.out.len) rfl ⟨by rw [HR.out]; rfl, HQ.out.below⟩
    · have hln : ((l.length : Int) == 0) = false := by
        have := List.length_pos_iff.2 hl0
        exact beq_false_of_ne (by omega)
      have HJ : Hid (l ≠ []) := Lib.hid hl0
      refine wp_seq ?_
      clear hl0
      go_wp2_with fail
      rename_i hK
      refine wp_label (hK _ _ (hrest _ _ ⟨l, _, _, _, _, _, _, _, _, _, _, _, _, rfl, Lib.hid ⟨HJ.out, HL.out, rfl⟩, by rw [← HCS.out]; exact HX1.out, HX2.out, HXW.out⟩))
end Go.Proofs.Ytlhkcfhhgcmieaa
