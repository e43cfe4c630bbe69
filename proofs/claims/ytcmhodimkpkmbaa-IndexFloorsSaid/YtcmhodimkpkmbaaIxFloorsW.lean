/-
  The statement on floors, by what a program's index owes.
-/
import Derived.Test.YtcmhodimkpkmbaaIxFloorsA
import Derived.Test.YtcmhodimkpkmbaaAppendRows
import Derived.BigQuiet
import Derived.Deep.CutRange
namespace Go.Proofs.Ytcmhodimkpkmbaa
open Go.ChangeShapes Go.WideShapes Go.ChangeAt Go.RowKit
set_option maxRecDepth 100000

/-- a deed as a value -/
abbrev ddG (d : Ix.Deed) : Value := .agg #[.int .i64 d.kind, .int .i64 d.b.obj, .int .i64 d.b.gen, .string d.b.tag, .int .i64 d.b.len, .int .i64 d.b.tick, .int .i64 d.i, .int .i64 d.a.1, .int .i64 d.a.2]
theorem dd_size : (Try.prog.info? 28).map (·.size) = some 9 := by kernel_rfl
theorem dd_parts : ∃ i z, Try.prog.info? 28 = some i ∧ i.zero = some z ∧ z.cells.size = 9 ∧ i.size = 9 ∧ i.bytes = 80 := by
  have h : (Try.prog.info? 28).map (fun i => (i.zero.map (·.cells.size), i.size, i.bytes)) = some (some 9, 9, 80) := by kernel_rfl
  cases hi : Try.prog.info? 28 with
  | none => rw [hi] at h; cases h
  | some i =>
    rw [hi] at h
    simp only [Option.map_some, Option.some.injEq, Prod.mk.injEq] at h
    obtain ⟨h1, h2, h3⟩ := h
    cases hz : i.zero with
    | none => rw [hz] at h1; cases h1
    | some z =>
      rw [hz] at h1
      exact ⟨i, z, rfl, hz, Option.some.inj h1, h2, h3⟩
section
variable {R : (Nat → Prop) → World → List Value → Ix.St → Prop} {sz : Nat} {z0 : List Value}
theorem dv_of_own {W : World} {base k c : Nat} {A : Option Addr} {L : List Ix.Deed} (h : W.ownsRow base 28 9 (.slice A k c) k (ddV L)) : Dv W W.heap.size A k L := by
  obtain ⟨A', c', e1, h2, -⟩ := Vs.of_ownN h
  injection e1 with e1
  subst e1
  exact h2
set_option maxHeartbeats 4000000 in
theorem build_nine {dc : List Value} {d : Ix.Deed} (h : dc = ddC d) : (if ¬dc.length = 9 ∨ 9 < dc.length then none else some (List.foldl (fun cs (x : Value × Nat) => cs.setIfInBounds x.snd x.fst) #[Value.int IntKind.i64 0, Value.int IntKind.i64 0, Value.int IntKind.i64 0, Value.string { data := #[] }, Value.int IntKind.i64 0, Value.int IntKind.i64 0, Value.int IntKind.i64 0, Value.int IntKind.i64 0, Value.int IntKind.i64 0] dc.zipIdx)) = some dc.toArray := by
  subst h
  rfl
/-- a variable that an append leaves alone -/
theorem zb_kept {W W' : World} {b base k : Nat} {v : Value} {xs zs : List Value} (h : IxBox W b zs) (hg : W.grownBy W' v.ownBlock) (ho : W.ownsRow base 28 9 v k xs) : IxBox W' b zs := by
  refine (hg.block b h.lt fun e => ?_).trans h
  rcases ho.2 with ⟨rfl, _⟩ | ⟨g, cap, cur, rfl, _, hgb, _⟩
  · simp [Value.ownBlock] at e
  · obtain rfl : b = g := by simpa [Value.ownBlock] using e
    have h2 : W.heap[b]? = some (.cells zs.toArray 37 (0, 0)) := h
    rw [hgb] at h2
    injection h2 with h2
    injection h2 with _ h2
    exact absurd h2 (by decide)
theorem floors_put (K : IxPrg R sz) {W w3 : World} {bz : Nat} {cs2 : List Value} {own2 : Nat → Prop} {S : Ix.St} (hzl : z0.length = sz) (h : IxBox W bz z0) (hr : R own2 W cs2 S) (hne : ∀ i, own2 i → i ≠ bz) (hb : Below w3.heap.size w3 W) (hbz : w3.heap.size ≤ bz) :
    IxBox (W.setCells bz 0 cs2) bz cs2 ∧ R own2 (W.setCells bz 0 cs2) cs2 S ∧ Below w3.heap.size w3 (W.setCells bz 0 cs2) :=
  ⟨h.put ((K.len hr).trans hzl.symm), K.frame hr fun i hi => (Else.setCells cs2 0 W (Else.refl bz W)).same i (hne i hi), below_cells cs2 bz 0 W hbz hb⟩
set_option maxHeartbeats 16000000 in
theorem floors_any (KP : IxPrg R sz) (T : IxTells R) (TN : IxNone R) (hz : ∀ W, (zeroValue 37).run Try.prog W = .ok (.agg z0.toArray) W) (hzl : z0.length = sz)
    (A : Option Addr) (n c : Nat) (L : List Ix.Deed) (d : Ix.Deed) (w : World) (hL : Dv w w.heap.size A n L) :
    Calls Try.prog 3 #[.slice A n c, ddG d] w fun e w' => e = .returned (.bool true) ∧ Below w.heap.size w w' := by
  have hbD : Below w.heap.size w (w.alloc (.cells (ddC d).toArray 28)) := (Below.refl _ w).alloc (Nat.le_refl _) _
  have hD : (w.alloc (.cells (ddC d).toArray 28)).heap[w.heap.size]? = some (.cells (ddC d).toArray 28 (0, 0)) := heap_alloc_new w _
  have HLEN := Lib.hid hL.len
  have HL := Lib.hid hL
  have ka := ixAwake_any KP T hz hzl (w.alloc (.cells (ddC d).toArray 28))
  have HBD := Lib.hid hbD
  have HD := Lib.hid hD
  have HDD := Lib.hid (show ddG d = .agg (ddC d).toArray from rfl)
  rw [HDD.out]
  have hcl : (ddC d).length = 9 := rfl
  have HCL := Lib.hid hcl
  have hinf : (Try.prog.info? 28).map (·.size) = some (ddC d).length := dd_size
  have HINF := Lib.hid hinf
  have HONE : Hid (∀ u ∈ ddC d, u.oneCell' = true) := Lib.hid fun u hu => ddV_one [d] u (by simpa [ddV] using hu)
  have HDC : Hid (ddC d = ddV [d]) := Lib.hid (by simp [ddV])
  by_cases hn : 40 < n
  · have d1 : decide ((40 : Int) < (n : Int)) = true := decide_eq_true (by omega)
    clear hL hbD hD hcl hinf
    obtain ⟨dc, hdc⟩ : ∃ dc, dc = ddC d := ⟨_, rfl⟩
    rw [← hdc] at HD HDD HCL HINF HONE HDC
    have HDC0 := Lib.hid hdc
    rw [← hdc]
    try rw [← hdc] at ka
    try rw [← hdc] at HBD
    clear hdc
    go_enter Try.func3, Try.ntmps3
    go_wp2_with (go_at_call 4; (with_reducible refine ka.mono ?_); rintro e w1 ⟨rfl, hb1⟩)
    go_ret
    exact ⟨rfl, HBD.out.trans (hb1.mono HBD.out.size)⟩
  · have d1 : decide ((40 : Int) < (n : Int)) = false := decide_eq_false (by omega)
    clear hL hbD hD hcl hinf
    have HS := Lib.hid (show (Ix.Ok (Ix.made L)) from Ix.ok_made L)
    obtain ⟨dc, hdc⟩ : ∃ dc, dc = ddC d := ⟨_, rfl⟩
    rw [← hdc] at HD HDD HCL HINF HONE HDC
    have HDC0 := Lib.hid hdc
    rw [← hdc]
    try rw [← hdc] at ka
    try rw [← hdc] at HBD
    clear hdc
    go_enter Try.func3, Try.ntmps3
    go_wp2_with (first
      | (go_at_call 4; (with_reducible refine ka.mono ?_); rintro e w1 ⟨rfl, hb1⟩; have HB1 := Lib.hid (HBD.out.trans (hb1.mono HBD.out.size)); have HD1 := Lib.hid ((hb1.block _ (Array.getElem?_eq_some_iff.1 HD.out).1).trans HD.out); have km := made_any KP hz hzl A n c L w1 ((Vs.below HL.out HB1.out).mono HB1.out.size) (by omega); clear hb1 ka)
      | (go_at_call 5; (with_reducible refine km.mono ?_); rintro e w2 ⟨cs1, own1, rb1, rfl, hR1, ho1, hx1, hr1, hb2⟩; have hv := var_set KP hzl hR1; have HT1 := hv.1; have HS1 := hv.2.1; have HO1 := all_oneCell_toArray (KP.one hR1); obtain ⟨w3, hw3⟩ : ∃ w3, w3 = (w2.alloc (.cells z0.toArray 37)).setCells w2.heap.size 0 cs1 := ⟨_, rfl⟩; have HW3 := Lib.hid hw3; have hv2 := hv.2.2; rw [← hw3] at hv2; have HXB := Lib.hid hv2.1; have HR1 := Lib.hid hv2.2.1; have HB23 := Lib.hid (hb2.trans (hv2.2.2.mono hb2.size)); have HB3 := Lib.hid (HB1.out.trans (HB23.out.mono HB1.out.size)); have HD3 := Lib.hid ((HB23.out.block _ (Array.getElem?_eq_some_iff.1 HD1.out).1).trans HD1.out); clear km hw3 hv hv2 hb2 ho1 hx1 hr1 hR1)
      | (refine wpList_store_mid (by rfl) 37 (.tmp 5) (.tmp 22) (by rfl) w2.heap.size 0 cs1.toArray (by rfl) (by rfl) HT1 HS1 HO1 ?_; rw [List.toList_toArray, ← HW3.out]))
    -- region 6
    have HPS : Hid (∀ W, Below w3.heap.size w3 W → W.rangeAt w.heap.size 0 dc) := Lib.hid fun W h j v hj => by
      rw [Nat.zero_add, cells_at ((h.block _ (Array.getElem?_eq_some_iff.1 HD3.out).1).trans HD3.out)]
      exact hj
    have HAW : Hid (∀ W, Below w3.heap.size w3 W → Vs W w.heap.size A (n * 9) (ddV L)) := Lib.hid fun W h => Vs.below HL.out (HB3.out.trans (h.mono HB3.out.size))
    have HB0 := Lib.hid (Below.refl w3.heap.size w3).drew
    have hP := HPS.out _ HB0.out
    obtain ⟨i0, zz, hi0, hz0, hz1, hz2, hz3⟩ := dd_parts
    have HI0 := Lib.hid hi0
    have HZ0 := Lib.hid hz0
    have HZC := Lib.hid hz1
    have HSI := Lib.hid hz2
    have HBI := Lib.hid hz3
    have HZR := Lib.hid hz
    have HZL := Lib.hid hzl
    have HN := Lib.hid hn
    clear hi0 hz0 hz1 hz2 hz3 HT1 HS1 HO1 hn
    go_cut [7, 8] from 24 to 32 (fun s7 _ wx => ∃ (bz : Nat) (cs2 : List Value) (own2 : Nat → Prop), s7 = .pointer (some ⟨bz, 0, none⟩) ∧ Hid (IxBox wx bz cs2 ∧ R own2 wx cs2 (Ix.made (L ++ [d])) ∧ Below w3.heap.size w3 wx) ∧ Hid (w3.heap.size ≤ bz))
    case first =>
      refine wp_region_noPanic ?_
      refine wp_region_held_drew (S := (fun W => W.rangeAt w.heap.size 0 dc)) (by kernel_rfl) hP (fun hHeld => ?_)
      generalize w3.drew = wc at *
      refine wpAnyH_take (i := 0) (v := ?_) (List.getElem?_toArray.trans rfl) (by kernel_rfl) (by kernel_rfl) (by kernel_rfl) (fun _ _ _ h => h) (Or.inl ⟨by rfl, ?_⟩) (by assumption) ?_
      case refine_2 => (intro w hSw; (try dsimp only at hSw); clear hSw; go_simp <;> with_reducible rfl)
      simp only [Act.put, List.setIfInBounds_toArray, List.set_cons_zero, List.set_cons_succ]
      refine wpAnyH_take (i := 2) (v := .agg dc.toArray) (List.getElem?_toArray.trans rfl) (by kernel_rfl) (by kernel_rfl) (by kernel_rfl) (fun _ _ _ h => h) ?_ (by assumption) ?_
      · exact yieldsIf_load_mid (by rfl) 28 _ (by rfl) w.heap.size 0 (by rfl) dc _ (fun _ h => h) Try.underlying28 (by rfl) HINF.out
      simp only [Act.put, List.setIfInBounds_toArray, List.set_cons_zero, List.set_cons_succ]
      refine wpAnyH_ready (rs := [1, 3, 9]) (by kernel_rfl) (by simp) ?_
      refine AllReadyH.cons (List.getElem?_toArray.trans rfl) (fun K hK => ?_) (AllReadyH.cons (List.getElem?_toArray.trans rfl) (fun K hK => ?_) (AllReadyH.cons (List.getElem?_toArray.trans rfl) (fun K hK => ?_) AllReadyH.nil))
      · refine step_append_rows (by rfl) _ _ _ (by rfl) w3.heap.size 28 i0 zz 9 80 Try.underlying22 HI0.out HZ0.out HSI.out HBI.out HZC.out (by omega) (.slice none 0 0) 0 [] (by rfl) (World.ownsRow_nil _ _ _ _) w.heap.size A n c (ddV L) (by rfl) (HAW.out _ HB0.out) (ddV_one L) n (Nat.zero_add n) (ddV L) (List.nil_append _) (by have := HN.out; omega) (by have := HN.out; omega) HB0.out.size ?_; intro A1 k1 wc ho1 hg1; have hbn := (Below.refl _ _).grown hg1 (Nat.le_refl _) (by simp [Value.ownBlock]); replace HB0 := Lib.hid (HB0.out.trans (hbn.mono HB0.out.size)); have hP := HPS.out _ HB0.out; (try replace HO1 := Lib.hid (own_belowN HO1.out hbn)); (try replace HVB := Lib.hid ((Vs.below HVB.out hbn).mono hbn.size)); (try replace HDV := Lib.hid (show Dv _ _ _ _ _ from (Vs.below HDV.out hbn).mono hbn.size)); (try replace HZB := Lib.hid (HZB.out.below hbn)); (try replace HR2 := Lib.hid (KP.on HR2.out hbn)); have HO1 := Lib.hid ho1; clear hbn ho1 hg1
        refine hK.out _ _ hP (fun hHeld => ?_)
        clear hK K
        refine wpAnyH_ready (rs := [3, 9]) (by kernel_rfl) (by simp) ?_
        refine AllReadyH.cons (List.getElem?_toArray.trans rfl) (fun K hK => ?_) (AllReadyH.cons (List.getElem?_toArray.trans rfl) (fun K hK => ?_) AllReadyH.nil)
        · go_simp; rw [build_nine HDC0.out]; go_simp; have hbn := (Below.refl wc.heap.size wc).alloc (Nat.le_refl _) (.cells dc.toArray 28); have hvb := (Vs.new wc 28 (0, 0) dc.toArray).mono (B' := (wc.alloc (.cells dc.toArray 28)).heap.size) (by simp); replace HB0 := Lib.hid (HB0.out.trans (hbn.mono HB0.out.size)); have hP := HPS.out _ HB0.out; (try replace HO1 := Lib.hid (own_belowN HO1.out hbn)); (try replace HVB := Lib.hid ((Vs.below HVB.out hbn).mono hbn.size)); (try replace HDV := Lib.hid (show Dv _ _ _ _ _ from (Vs.below HDV.out hbn).mono hbn.size)); (try replace HZB := Lib.hid (HZB.out.below hbn)); (try replace HR2 := Lib.hid (KP.on HR2.out hbn)); have HVB := Lib.hid hvb; clear hbn hvb; generalize wc.alloc (.cells dc.toArray 28) = wc at *
          refine hK.out _ _ hP (fun hHeld => ?_)
          clear hK K
          refine wpAnyH_ready (rs := [4, 9]) (by kernel_rfl) (by simp) ?_
          refine AllReadyH.cons (List.getElem?_toArray.trans rfl) (fun K hK => ?_) (AllReadyH.cons (List.getElem?_toArray.trans rfl) (fun K hK => ?_) AllReadyH.nil)
          · refine step_append_rows (by rfl) _ _ _ (by rfl) w3.heap.size 28 i0 zz 9 80 Try.underlying22 HI0.out HZ0.out HSI.out HBI.out HZC.out (by omega) (.slice A1 n k1) n (ddV L) (by rfl) HO1.out _ _ 1 1 dc (by rfl) (by rw [Nat.one_mul, ← HCL.out]; simpa using HVB.out) HONE.out (n + 1) rfl (ddV (L ++ [d])) (by rw [HDC.out, ← ddV_append]) (by have := HN.out; omega) (by have := HN.out; omega) HB0.out.size ?_; intro A2 k2 wc ho2 hg2; have hbo := HB0.out.grown hg2 HB0.out.size (fun q hq => (HO1.out.lt q hq).1); have hzk := fun b (hb : b < w3.heap.size) => hb; replace HB0 := Lib.hid hbo; have hP := HPS.out _ HB0.out; have HDV := Lib.hid (dv_of_own ho2); (try replace HZB := Lib.hid (zb_kept HZB.out hg2 HO1.out)); clear HO1 HVB hbo hg2 ho2 hzk
            refine hK.out _ _ hP (fun hHeld => ?_)
            clear hK K
            refine wpAnyH_ready (rs := [5, 9]) (by kernel_rfl) (by simp) ?_
            refine AllReadyH.cons (List.getElem?_toArray.trans rfl) (fun K hK => ?_) (AllReadyH.cons (List.getElem?_toArray.trans rfl) (fun K hK => ?_) AllReadyH.nil)
            · go_simp
              go_at_call 5; (with_reducible refine (made_any KP HZR.out HZL.out A2 (n + 1) k2 (L ++ [d]) wc HDV.out (by have := HN.out; omega)).mono ?_); rintro e wc ⟨cs2, own2, rb2, rfl, hR2, ho2, hx2, hr2, hbn⟩; (try have HNE := Lib.hid (fun i hi => Nat.ne_of_gt (Nat.lt_of_lt_of_le HZB.out.lt (ho2 i hi).1))); replace HB0 := Lib.hid (HB0.out.trans (hbn.mono HB0.out.size)); have hP := HPS.out _ HB0.out; (try replace HO1 := Lib.hid (own_belowN HO1.out hbn)); (try replace HVB := Lib.hid ((Vs.below HVB.out hbn).mono hbn.size)); (try replace HDV := Lib.hid (show Dv _ _ _ _ _ from (Vs.below HDV.out hbn).mono hbn.size)); (try replace HZB := Lib.hid (HZB.out.below hbn)); (try replace HR2 := Lib.hid (KP.on HR2.out hbn)); have HR2 := Lib.hid hR2; clear hbn hR2 ho2 hx2 hr2 HDV
              refine hK.out _ _ hP (fun hHeld => ?_)
              clear hK K
              refine wpAnyH_take (i := 6) (v := ?_) (List.getElem?_toArray.trans rfl) (by kernel_rfl) (by kernel_rfl) (by kernel_rfl) (fun _ _ _ h => h) (Or.inl ⟨by rfl, ?_⟩) (by assumption) ?_
              case refine_2 => (intro w hSw; (try dsimp only at hSw); clear hSw; go_simp <;> with_reducible rfl)
              simp only [Act.put, List.setIfInBounds_toArray, List.set_cons_zero, List.set_cons_succ]
              refine wpAnyH_take (i := 7) (v := ?_) (List.getElem?_toArray.trans rfl) (by kernel_rfl) (by kernel_rfl) (by kernel_rfl) (fun _ _ _ h => h) (Or.inl ⟨by rfl, ?_⟩) (by assumption) ?_
              case refine_2 => (intro w hSw; (try dsimp only at hSw); clear hSw; go_simp <;> with_reducible rfl)
              simp only [Act.put, List.setIfInBounds_toArray, List.set_cons_zero, List.set_cons_succ]
              refine wpAnyH_take (i := 8) (v := ?_) (List.getElem?_toArray.trans rfl) (by kernel_rfl) (by kernel_rfl) (by kernel_rfl) (fun _ _ _ h => h) (Or.inl ⟨by rfl, ?_⟩) (by assumption) ?_
              case refine_2 => (intro w hSw; (try dsimp only at hSw); clear hSw; go_simp <;> with_reducible rfl)
              simp only [Act.put, List.setIfInBounds_toArray, List.set_cons_zero, List.set_cons_succ]
              refine wpAnyH_ready (rs := [9]) (by kernel_rfl) (by simp) ?_
              refine AllReadyH.cons (List.getElem?_toArray.trans rfl) (fun K hK => ?_) AllReadyH.nil
              go_simp; obtain ⟨bz, hbz⟩ : ∃ bz, bz = wc.heap.size := ⟨_, rfl⟩; rw [← hbz]; have hbn := (Below.refl wc.heap.size wc).alloc (Nat.le_refl _) (.cells z0.toArray 37); have hzb : IxBox (wc.alloc (.cells z0.toArray 37)) bz z0 := (by rw [hbz]; exact IxBox.new wc z0); (try have HNE : Hid (∀ i, own2 i → i ≠ bz) := Lib.hid fun i hi => Nat.ne_of_lt (by rw [hbz]; exact KP.lt HR2.out hi)); have HBZ := Lib.hid (show w3.heap.size ≤ bz by rw [hbz]; exact HB0.out.size); replace HB0 := Lib.hid (HB0.out.trans (hbn.mono HB0.out.size)); have hP := HPS.out _ HB0.out; (try replace HO1 := Lib.hid (own_belowN HO1.out hbn)); (try replace HVB := Lib.hid ((Vs.below HVB.out hbn).mono hbn.size)); (try replace HDV := Lib.hid (show Dv _ _ _ _ _ from (Vs.below HDV.out hbn).mono hbn.size)); (try replace HZB := Lib.hid (HZB.out.below hbn)); (try replace HR2 := Lib.hid (KP.on HR2.out hbn)); have HZB := Lib.hid hzb; clear hbn hzb hbz; generalize wc.alloc (.cells z0.toArray 37) = wc at *
              refine hK.out _ _ hP (fun hHeld => ?_)
              clear hK K
              refine wpAnyH_ready (rs := [10]) (by kernel_rfl) (by simp) ?_
              refine AllReadyH.cons (List.getElem?_toArray.trans rfl) (fun K hK => ?_) AllReadyH.nil
              rw [if_pos (by rfl)]; refine wp_store_mid 37 (.tmp 7) (.tmp 31) (by rfl) _ 0 cs2.toArray (by rfl) (by rfl) (HZB.out.there (by rw [HZL.out]; simpa using (KP.len HR2.out).symm)) (by rw [show cs2.toArray.size = sz by simpa using KP.len HR2.out]; exact KP.size) (all_oneCell_toArray (KP.one HR2.out)) ?_; rw [List.toList_toArray]; have HEND := Lib.hid (floors_put KP HZL.out HZB.out HR2.out HNE.out HB0.out HBZ.out); have hP := HPS.out _ HEND.out.2.2; generalize wc.setCells bz 0 cs2 = wc at *
              refine hK.out _ _ hP (fun hHeld => ?_)
              clear hK K
              refine wpAnyH_take (i := 11) (v := ?_) (List.getElem?_toArray.trans rfl) (by kernel_rfl) (by kernel_rfl) (by kernel_rfl) (fun _ _ _ h => h) (Or.inl ⟨by rfl, ?_⟩) (by assumption) ?_
              case refine_2 => (intro w hSw; (try dsimp only at hSw); clear hSw; go_simp <;> with_reducible rfl)
              simp only [Act.put, List.setIfInBounds_toArray, List.set_cons_zero, List.set_cons_succ]
              refine wpAnyH_done (by kernel_rfl) ?_ _
              refine NoPanic.normal ?_
              go_wp2_with fail
              go_meet
              exact ⟨bz, cs2, own2, rfl, HEND, HBZ⟩
            · go_simp; obtain ⟨bz, hbz⟩ : ∃ bz, bz = wc.heap.size := ⟨_, rfl⟩; rw [← hbz]; have hbn := (Below.refl wc.heap.size wc).alloc (Nat.le_refl _) (.cells z0.toArray 37); have hzb : IxBox (wc.alloc (.cells z0.toArray 37)) bz z0 := (by rw [hbz]; exact IxBox.new wc z0); (try have HNE : Hid (∀ i, own2 i → i ≠ bz) := Lib.hid fun i hi => Nat.ne_of_lt (by rw [hbz]; exact KP.lt HR2.out hi)); have HBZ := Lib.hid (show w3.heap.size ≤ bz by rw [hbz]; exact HB0.out.size); replace HB0 := Lib.hid (HB0.out.trans (hbn.mono HB0.out.size)); have hP := HPS.out _ HB0.out; (try replace HO1 := Lib.hid (own_belowN HO1.out hbn)); (try replace HVB := Lib.hid ((Vs.below HVB.out hbn).mono hbn.size)); (try replace HDV := Lib.hid (show Dv _ _ _ _ _ from (Vs.below HDV.out hbn).mono hbn.size)); (try replace HZB := Lib.hid (HZB.out.below hbn)); (try replace HR2 := Lib.hid (KP.on HR2.out hbn)); have HZB := Lib.hid hzb; clear hbn hzb hbz; generalize wc.alloc (.cells z0.toArray 37) = wc at *
              refine hK.out _ _ hP (fun hHeld => ?_)
              clear hK K
              refine wpAnyH_ready (rs := [5]) (by kernel_rfl) (by simp) ?_
              refine AllReadyH.cons (List.getElem?_toArray.trans rfl) (fun K hK => ?_) AllReadyH.nil
              go_simp
              go_at_call 5; (with_reducible refine (made_any KP HZR.out HZL.out A2 (n + 1) k2 (L ++ [d]) wc HDV.out (by have := HN.out; omega)).mono ?_); rintro e wc ⟨cs2, own2, rb2, rfl, hR2, ho2, hx2, hr2, hbn⟩; (try have HNE := Lib.hid (fun i hi => Nat.ne_of_gt (Nat.lt_of_lt_of_le HZB.out.lt (ho2 i hi).1))); replace HB0 := Lib.hid (HB0.out.trans (hbn.mono HB0.out.size)); have hP := HPS.out _ HB0.out; (try replace HO1 := Lib.hid (own_belowN HO1.out hbn)); (try replace HVB := Lib.hid ((Vs.below HVB.out hbn).mono hbn.size)); (try replace HDV := Lib.hid (show Dv _ _ _ _ _ from (Vs.below HDV.out hbn).mono hbn.size)); (try replace HZB := Lib.hid (HZB.out.below hbn)); (try replace HR2 := Lib.hid (KP.on HR2.out hbn)); have HR2 := Lib.hid hR2; clear hbn hR2 ho2 hx2 hr2 HDV
              refine hK.out _ _ hP (fun hHeld => ?_)
              clear hK K
              refine wpAnyH_take (i := 6) (v := ?_) (List.getElem?_toArray.trans rfl) (by kernel_rfl) (by kernel_rfl) (by kernel_rfl) (fun _ _ _ h => h) (Or.inl ⟨by rfl, ?_⟩) (by assumption) ?_
              case refine_2 => (intro w hSw; (try dsimp only at hSw); clear hSw; go_simp <;> with_reducible rfl)
              simp only [Act.put, List.setIfInBounds_toArray, List.set_cons_zero, List.set_cons_succ]
              refine wpAnyH_take (i := 7) (v := ?_) (List.getElem?_toArray.trans rfl) (by kernel_rfl) (by kernel_rfl) (by kernel_rfl) (fun _ _ _ h => h) (Or.inl ⟨by rfl, ?_⟩) (by assumption) ?_
              case refine_2 => (intro w hSw; (try dsimp only at hSw); clear hSw; go_simp <;> with_reducible rfl)
              simp only [Act.put, List.setIfInBounds_toArray, List.set_cons_zero, List.set_cons_succ]
              refine wpAnyH_take (i := 8) (v := ?_) (List.getElem?_toArray.trans rfl) (by kernel_rfl) (by kernel_rfl) (by kernel_rfl) (fun _ _ _ h => h) (Or.inl ⟨by rfl, ?_⟩) (by assumption) ?_
              case refine_2 => (intro w hSw; (try dsimp only at hSw); clear hSw; go_simp <;> with_reducible rfl)
              simp only [Act.put, List.setIfInBounds_toArray, List.set_cons_zero, List.set_cons_succ]
              refine wpAnyH_ready (rs := [10]) (by kernel_rfl) (by simp) ?_
              refine AllReadyH.cons (List.getElem?_toArray.trans rfl) (fun K hK => ?_) AllReadyH.nil
              rw [if_pos (by rfl)]; refine wp_store_mid 37 (.tmp 7) (.tmp 31) (by rfl) _ 0 cs2.toArray (by rfl) (by rfl) (HZB.out.there (by rw [HZL.out]; simpa using (KP.len HR2.out).symm)) (by rw [show cs2.toArray.size = sz by simpa using KP.len HR2.out]; exact KP.size) (all_oneCell_toArray (KP.one HR2.out)) ?_; rw [List.toList_toArray]; have HEND := Lib.hid (floors_put KP HZL.out HZB.out HR2.out HNE.out HB0.out HBZ.out); have hP := HPS.out _ HEND.out.2.2; generalize wc.setCells bz 0 cs2 = wc at *
              refine hK.out _ _ hP (fun hHeld => ?_)
              clear hK K
              refine wpAnyH_take (i := 11) (v := ?_) (List.getElem?_toArray.trans rfl) (by kernel_rfl) (by kernel_rfl) (by kernel_rfl) (fun _ _ _ h => h) (Or.inl ⟨by rfl, ?_⟩) (by assumption) ?_
              case refine_2 => (intro w hSw; (try dsimp only at hSw); clear hSw; go_simp <;> with_reducible rfl)
              simp only [Act.put, List.setIfInBounds_toArray, List.set_cons_zero, List.set_cons_succ]
              refine wpAnyH_done (by kernel_rfl) ?_ _
              refine NoPanic.normal ?_
              go_wp2_with fail
              go_meet
              exact ⟨bz, cs2, own2, rfl, HEND, HBZ⟩
          · go_simp; obtain ⟨bz, hbz⟩ : ∃ bz, bz = wc.heap.size := ⟨_, rfl⟩; rw [← hbz]; have hbn := (Below.refl wc.heap.size wc).alloc (Nat.le_refl _) (.cells z0.toArray 37); have hzb : IxBox (wc.alloc (.cells z0.toArray 37)) bz z0 := (by rw [hbz]; exact IxBox.new wc z0); (try have HNE : Hid (∀ i, own2 i → i ≠ bz) := Lib.hid fun i hi => Nat.ne_of_lt (by rw [hbz]; exact KP.lt HR2.out hi)); have HBZ := Lib.hid (show w3.heap.size ≤ bz by rw [hbz]; exact HB0.out.size); replace HB0 := Lib.hid (HB0.out.trans (hbn.mono HB0.out.size)); have hP := HPS.out _ HB0.out; (try replace HO1 := Lib.hid (own_belowN HO1.out hbn)); (try replace HVB := Lib.hid ((Vs.below HVB.out hbn).mono hbn.size)); (try replace HDV := Lib.hid (show Dv _ _ _ _ _ from (Vs.below HDV.out hbn).mono hbn.size)); (try replace HZB := Lib.hid (HZB.out.below hbn)); (try replace HR2 := Lib.hid (KP.on HR2.out hbn)); have HZB := Lib.hid hzb; clear hbn hzb hbz; generalize wc.alloc (.cells z0.toArray 37) = wc at *
            refine hK.out _ _ hP (fun hHeld => ?_)
            clear hK K
            refine wpAnyH_ready (rs := [4]) (by kernel_rfl) (by simp) ?_
            refine AllReadyH.cons (List.getElem?_toArray.trans rfl) (fun K hK => ?_) AllReadyH.nil
            refine step_append_rows (by rfl) _ _ _ (by rfl) w3.heap.size 28 i0 zz 9 80 Try.underlying22 HI0.out HZ0.out HSI.out HBI.out HZC.out (by omega) (.slice A1 n k1) n (ddV L) (by rfl) HO1.out _ _ 1 1 dc (by rfl) (by rw [Nat.one_mul, ← HCL.out]; simpa using HVB.out) HONE.out (n + 1) rfl (ddV (L ++ [d])) (by rw [HDC.out, ← ddV_append]) (by have := HN.out; omega) (by have := HN.out; omega) HB0.out.size ?_; intro A2 k2 wc ho2 hg2; have hbo := HB0.out.grown hg2 HB0.out.size (fun q hq => (HO1.out.lt q hq).1); have hzk := fun b (hb : b < w3.heap.size) => hb; replace HB0 := Lib.hid hbo; have hP := HPS.out _ HB0.out; have HDV := Lib.hid (dv_of_own ho2); (try replace HZB := Lib.hid (zb_kept HZB.out hg2 HO1.out)); clear HO1 HVB hbo hg2 ho2 hzk
            refine hK.out _ _ hP (fun hHeld => ?_)
            clear hK K
            refine wpAnyH_ready (rs := [5]) (by kernel_rfl) (by simp) ?_
            refine AllReadyH.cons (List.getElem?_toArray.trans rfl) (fun K hK => ?_) AllReadyH.nil
            go_simp
            go_at_call 5; (with_reducible refine (made_any KP HZR.out HZL.out A2 (n + 1) k2 (L ++ [d]) wc HDV.out (by have := HN.out; omega)).mono ?_); rintro e wc ⟨cs2, own2, rb2, rfl, hR2, ho2, hx2, hr2, hbn⟩; (try have HNE := Lib.hid (fun i hi => Nat.ne_of_gt (Nat.lt_of_lt_of_le HZB.out.lt (ho2 i hi).1))); replace HB0 := Lib.hid (HB0.out.trans (hbn.mono HB0.out.size)); have hP := HPS.out _ HB0.out; (try replace HO1 := Lib.hid (own_belowN HO1.out hbn)); (try replace HVB := Lib.hid ((Vs.below HVB.out hbn).mono hbn.size)); (try replace HDV := Lib.hid (show Dv _ _ _ _ _ from (Vs.below HDV.out hbn).mono hbn.size)); (try replace HZB := Lib.hid (HZB.out.below hbn)); (try replace HR2 := Lib.hid (KP.on HR2.out hbn)); have HR2 := Lib.hid hR2; clear hbn hR2 ho2 hx2 hr2 HDV
            refine hK.out _ _ hP (fun hHeld => ?_)
            clear hK K
            refine wpAnyH_take (i := 6) (v := ?_) (List.getElem?_toArray.trans rfl) (by kernel_rfl) (by kernel_rfl) (by kernel_rfl) (fun _ _ _ h => h) (Or.inl ⟨by rfl, ?_⟩) (by assumption) ?_
            case refine_2 => (intro w hSw; (try dsimp only at hSw); clear hSw; go_simp <;> with_reducible rfl)
            simp only [Act.put, List.setIfInBounds_toArray, List.set_cons_zero, List.set_cons_succ]
            refine wpAnyH_take (i := 7) (v := ?_) (List.getElem?_toArray.trans rfl) (by kernel_rfl) (by kernel_rfl) (by kernel_rfl) (fun _ _ _ h => h) (Or.inl ⟨by rfl, ?_⟩) (by assumption) ?_
            case refine_2 => (intro w hSw; (try dsimp only at hSw); clear hSw; go_simp <;> with_reducible rfl)
            simp only [Act.put, List.setIfInBounds_toArray, List.set_cons_zero, List.set_cons_succ]
            refine wpAnyH_take (i := 8) (v := ?_) (List.getElem?_toArray.trans rfl) (by kernel_rfl) (by kernel_rfl) (by kernel_rfl) (fun _ _ _ h => h) (Or.inl ⟨by rfl, ?_⟩) (by assumption) ?_
            case refine_2 => (intro w hSw; (try dsimp only at hSw); clear hSw; go_simp <;> with_reducible rfl)
            simp only [Act.put, List.setIfInBounds_toArray, List.set_cons_zero, List.set_cons_succ]
            refine wpAnyH_ready (rs := [10]) (by kernel_rfl) (by simp) ?_
            refine AllReadyH.cons (List.getElem?_toArray.trans rfl) (fun K hK => ?_) AllReadyH.nil
            rw [if_pos (by rfl)]; refine wp_store_mid 37 (.tmp 7) (.tmp 31) (by rfl) _ 0 cs2.toArray (by rfl) (by rfl) (HZB.out.there (by rw [HZL.out]; simpa using (KP.len HR2.out).symm)) (by rw [show cs2.toArray.size = sz by simpa using KP.len HR2.out]; exact KP.size) (all_oneCell_toArray (KP.one HR2.out)) ?_; rw [List.toList_toArray]; have HEND := Lib.hid (floors_put KP HZL.out HZB.out HR2.out HNE.out HB0.out HBZ.out); have hP := HPS.out _ HEND.out.2.2; generalize wc.setCells bz 0 cs2 = wc at *
            refine hK.out _ _ hP (fun hHeld => ?_)
            clear hK K
            refine wpAnyH_take (i := 11) (v := ?_) (List.getElem?_toArray.trans rfl) (by kernel_rfl) (by kernel_rfl) (by kernel_rfl) (fun _ _ _ h => h) (Or.inl ⟨by rfl, ?_⟩) (by assumption) ?_
            case refine_2 => (intro w hSw; (try dsimp only at hSw); clear hSw; go_simp <;> with_reducible rfl)
            simp only [Act.put, List.setIfInBounds_toArray, List.set_cons_zero, List.set_cons_succ]
            refine wpAnyH_done (by kernel_rfl) ?_ _
            refine NoPanic.normal ?_
            go_wp2_with fail
            go_meet
            exact ⟨bz, cs2, own2, rfl, HEND, HBZ⟩
        · go_simp; obtain ⟨bz, hbz⟩ : ∃ bz, bz = wc.heap.size := ⟨_, rfl⟩; rw [← hbz]; have hbn := (Below.refl wc.heap.size wc).alloc (Nat.le_refl _) (.cells z0.toArray 37); have hzb : IxBox (wc.alloc (.cells z0.toArray 37)) bz z0 := (by rw [hbz]; exact IxBox.new wc z0); (try have HNE : Hid (∀ i, own2 i → i ≠ bz) := Lib.hid fun i hi => Nat.ne_of_lt (by rw [hbz]; exact KP.lt HR2.out hi)); have HBZ := Lib.hid (show w3.heap.size ≤ bz by rw [hbz]; exact HB0.out.size); replace HB0 := Lib.hid (HB0.out.trans (hbn.mono HB0.out.size)); have hP := HPS.out _ HB0.out; (try replace HO1 := Lib.hid (own_belowN HO1.out hbn)); (try replace HVB := Lib.hid ((Vs.below HVB.out hbn).mono hbn.size)); (try replace HDV := Lib.hid (show Dv _ _ _ _ _ from (Vs.below HDV.out hbn).mono hbn.size)); (try replace HZB := Lib.hid (HZB.out.below hbn)); (try replace HR2 := Lib.hid (KP.on HR2.out hbn)); have HZB := Lib.hid hzb; clear hbn hzb hbz; generalize wc.alloc (.cells z0.toArray 37) = wc at *
          refine hK.out _ _ hP (fun hHeld => ?_)
          clear hK K
          refine wpAnyH_ready (rs := [3]) (by kernel_rfl) (by simp) ?_
          refine AllReadyH.cons (List.getElem?_toArray.trans rfl) (fun K hK => ?_) AllReadyH.nil
          go_simp; rw [build_nine HDC0.out]; go_simp; have hbn := (Below.refl wc.heap.size wc).alloc (Nat.le_refl _) (.cells dc.toArray 28); have hvb := (Vs.new wc 28 (0, 0) dc.toArray).mono (B' := (wc.alloc (.cells dc.toArray 28)).heap.size) (by simp); replace HB0 := Lib.hid (HB0.out.trans (hbn.mono HB0.out.size)); have hP := HPS.out _ HB0.out; (try replace HO1 := Lib.hid (own_belowN HO1.out hbn)); (try replace HVB := Lib.hid ((Vs.below HVB.out hbn).mono hbn.size)); (try replace HDV := Lib.hid (show Dv _ _ _ _ _ from (Vs.below HDV.out hbn).mono hbn.size)); (try replace HZB := Lib.hid (HZB.out.below hbn)); (try replace HR2 := Lib.hid (KP.on HR2.out hbn)); have HVB := Lib.hid hvb; clear hbn hvb; generalize wc.alloc (.cells dc.toArray 28) = wc at *
          refine hK.out _ _ hP (fun hHeld => ?_)
          clear hK K
          refine wpAnyH_ready (rs := [4]) (by kernel_rfl) (by simp) ?_
          refine AllReadyH.cons (List.getElem?_toArray.trans rfl) (fun K hK => ?_) AllReadyH.nil
          refine step_append_rows (by rfl) _ _ _ (by rfl) w3.heap.size 28 i0 zz 9 80 Try.underlying22 HI0.out HZ0.out HSI.out HBI.out HZC.out (by omega) (.slice A1 n k1) n (ddV L) (by rfl) HO1.out _ _ 1 1 dc (by rfl) (by rw [Nat.one_mul, ← HCL.out]; simpa using HVB.out) HONE.out (n + 1) rfl (ddV (L ++ [d])) (by rw [HDC.out, ← ddV_append]) (by have := HN.out; omega) (by have := HN.out; omega) HB0.out.size ?_; intro A2 k2 wc ho2 hg2; have hbo := HB0.out.grown hg2 HB0.out.size (fun q hq => (HO1.out.lt q hq).1); have hzk := fun b (hb : b < w3.heap.size) => hb; replace HB0 := Lib.hid hbo; have hP := HPS.out _ HB0.out; have HDV := Lib.hid (dv_of_own ho2); (try replace HZB := Lib.hid (zb_kept HZB.out hg2 HO1.out)); clear HO1 HVB hbo hg2 ho2 hzk
          refine hK.out _ _ hP (fun hHeld => ?_)
          clear hK K
          refine wpAnyH_ready (rs := [5]) (by kernel_rfl) (by simp) ?_
          refine AllReadyH.cons (List.getElem?_toArray.trans rfl) (fun K hK => ?_) AllReadyH.nil
          go_simp
          go_at_call 5; (with_reducible refine (made_any KP HZR.out HZL.out A2 (n + 1) k2 (L ++ [d]) wc HDV.out (by have := HN.out; omega)).mono ?_); rintro e wc ⟨cs2, own2, rb2, rfl, hR2, ho2, hx2, hr2, hbn⟩; (try have HNE := Lib.hid (fun i hi => Nat.ne_of_gt (Nat.lt_of_lt_of_le HZB.out.lt (ho2 i hi).1))); replace HB0 := Lib.hid (HB0.out.trans (hbn.mono HB0.out.size)); have hP := HPS.out _ HB0.out; (try replace HO1 := Lib.hid (own_belowN HO1.out hbn)); (try replace HVB := Lib.hid ((Vs.below HVB.out hbn).mono hbn.size)); (try replace HDV := Lib.hid (show Dv _ _ _ _ _ from (Vs.below HDV.out hbn).mono hbn.size)); (try replace HZB := Lib.hid (HZB.out.below hbn)); (try replace HR2 := Lib.hid (KP.on HR2.out hbn)); have HR2 := Lib.hid hR2; clear hbn hR2 ho2 hx2 hr2 HDV
          refine hK.out _ _ hP (fun hHeld => ?_)
          clear hK K
          refine wpAnyH_take (i := 6) (v := ?_) (List.getElem?_toArray.trans rfl) (by kernel_rfl) (by kernel_rfl) (by kernel_rfl) (fun _ _ _ h => h) (Or.inl ⟨by rfl, ?_⟩) (by assumption) ?_
          case refine_2 => (intro w hSw; (try dsimp only at hSw); clear hSw; go_simp <;> with_reducible rfl)
          simp only [Act.put, List.setIfInBounds_toArray, List.set_cons_zero, List.set_cons_succ]
          refine wpAnyH_take (i := 7) (v := ?_) (List.getElem?_toArray.trans rfl) (by kernel_rfl) (by kernel_rfl) (by kernel_rfl) (fun _ _ _ h => h) (Or.inl ⟨by rfl, ?_⟩) (by assumption) ?_
          case refine_2 => (intro w hSw; (try dsimp only at hSw); clear hSw; go_simp <;> with_reducible rfl)
          simp only [Act.put, List.setIfInBounds_toArray, List.set_cons_zero, List.set_cons_succ]
          refine wpAnyH_take (i := 8) (v := ?_) (List.getElem?_toArray.trans rfl) (by kernel_rfl) (by kernel_rfl) (by kernel_rfl) (fun _ _ _ h => h) (Or.inl ⟨by rfl, ?_⟩) (by assumption) ?_
          case refine_2 => (intro w hSw; (try dsimp only at hSw); clear hSw; go_simp <;> with_reducible rfl)
          simp only [Act.put, List.setIfInBounds_toArray, List.set_cons_zero, List.set_cons_succ]
          refine wpAnyH_ready (rs := [10]) (by kernel_rfl) (by simp) ?_
          refine AllReadyH.cons (List.getElem?_toArray.trans rfl) (fun K hK => ?_) AllReadyH.nil
          rw [if_pos (by rfl)]; refine wp_store_mid 37 (.tmp 7) (.tmp 31) (by rfl) _ 0 cs2.toArray (by rfl) (by rfl) (HZB.out.there (by rw [HZL.out]; simpa using (KP.len HR2.out).symm)) (by rw [show cs2.toArray.size = sz by simpa using KP.len HR2.out]; exact KP.size) (all_oneCell_toArray (KP.one HR2.out)) ?_; rw [List.toList_toArray]; have HEND := Lib.hid (floors_put KP HZL.out HZB.out HR2.out HNE.out HB0.out HBZ.out); have hP := HPS.out _ HEND.out.2.2; generalize wc.setCells bz 0 cs2 = wc at *
          refine hK.out _ _ hP (fun hHeld => ?_)
          clear hK K
          refine wpAnyH_take (i := 11) (v := ?_) (List.getElem?_toArray.trans rfl) (by kernel_rfl) (by kernel_rfl) (by kernel_rfl) (fun _ _ _ h => h) (Or.inl ⟨by rfl, ?_⟩) (by assumption) ?_
          case refine_2 => (intro w hSw; (try dsimp only at hSw); clear hSw; go_simp <;> with_reducible rfl)
          simp only [Act.put, List.setIfInBounds_toArray, List.set_cons_zero, List.set_cons_succ]
          refine wpAnyH_done (by kernel_rfl) ?_ _
          refine NoPanic.normal ?_
          go_wp2_with fail
          go_meet
          exact ⟨bz, cs2, own2, rfl, HEND, HBZ⟩
      · go_simp; rw [build_nine HDC0.out]; go_simp; have hbn := (Below.refl wc.heap.size wc).alloc (Nat.le_refl _) (.cells dc.toArray 28); have hvb := (Vs.new wc 28 (0, 0) dc.toArray).mono (B' := (wc.alloc (.cells dc.toArray 28)).heap.size) (by simp); replace HB0 := Lib.hid (HB0.out.trans (hbn.mono HB0.out.size)); have hP := HPS.out _ HB0.out; (try replace HO1 := Lib.hid (own_belowN HO1.out hbn)); (try replace HVB := Lib.hid ((Vs.below HVB.out hbn).mono hbn.size)); (try replace HDV := Lib.hid (show Dv _ _ _ _ _ from (Vs.below HDV.out hbn).mono hbn.size)); (try replace HZB := Lib.hid (HZB.out.below hbn)); (try replace HR2 := Lib.hid (KP.on HR2.out hbn)); have HVB := Lib.hid hvb; clear hbn hvb; generalize wc.alloc (.cells dc.toArray 28) = wc at *
        refine hK.out _ _ hP (fun hHeld => ?_)
        clear hK K
        refine wpAnyH_ready (rs := [1, 9]) (by kernel_rfl) (by simp) ?_
        refine AllReadyH.cons (List.getElem?_toArray.trans rfl) (fun K hK => ?_) (AllReadyH.cons (List.getElem?_toArray.trans rfl) (fun K hK => ?_) AllReadyH.nil)
        · refine step_append_rows (by rfl) _ _ _ (by rfl) w3.heap.size 28 i0 zz 9 80 Try.underlying22 HI0.out HZ0.out HSI.out HBI.out HZC.out (by omega) (.slice none 0 0) 0 [] (by rfl) (World.ownsRow_nil _ _ _ _) w.heap.size A n c (ddV L) (by rfl) (HAW.out _ HB0.out) (ddV_one L) n (Nat.zero_add n) (ddV L) (List.nil_append _) (by have := HN.out; omega) (by have := HN.out; omega) HB0.out.size ?_; intro A1 k1 wc ho1 hg1; have hbn := (Below.refl _ _).grown hg1 (Nat.le_refl _) (by simp [Value.ownBlock]); replace HB0 := Lib.hid (HB0.out.trans (hbn.mono HB0.out.size)); have hP := HPS.out _ HB0.out; (try replace HO1 := Lib.hid (own_belowN HO1.out hbn)); (try replace HVB := Lib.hid ((Vs.below HVB.out hbn).mono hbn.size)); (try replace HDV := Lib.hid (show Dv _ _ _ _ _ from (Vs.below HDV.out hbn).mono hbn.size)); (try replace HZB := Lib.hid (HZB.out.below hbn)); (try replace HR2 := Lib.hid (KP.on HR2.out hbn)); have HO1 := Lib.hid ho1; clear hbn ho1 hg1
          refine hK.out _ _ hP (fun hHeld => ?_)
          clear hK K
          refine wpAnyH_ready (rs := [4, 9]) (by kernel_rfl) (by simp) ?_
          refine AllReadyH.cons (List.getElem?_toArray.trans rfl) (fun K hK => ?_) (AllReadyH.cons (List.getElem?_toArray.trans rfl) (fun K hK => ?_) AllReadyH.nil)
          · refine step_append_rows (by rfl) _ _ _ (by rfl) w3.heap.size 28 i0 zz 9 80 Try.underlying22 HI0.out HZ0.out HSI.out HBI.out HZC.out (by omega) (.slice A1 n k1) n (ddV L) (by rfl) HO1.out _ _ 1 1 dc (by rfl) (by rw [Nat.one_mul, ← HCL.out]; simpa using HVB.out) HONE.out (n + 1) rfl (ddV (L ++ [d])) (by rw [HDC.out, ← ddV_append]) (by have := HN.out; omega) (by have := HN.out; omega) HB0.out.size ?_; intro A2 k2 wc ho2 hg2; have hbo := HB0.out.grown hg2 HB0.out.size (fun q hq => (HO1.out.lt q hq).1); have hzk := fun b (hb : b < w3.heap.size) => hb; replace HB0 := Lib.hid hbo; have hP := HPS.out _ HB0.out; have HDV := Lib.hid (dv_of_own ho2); (try replace HZB := Lib.hid (zb_kept HZB.out hg2 HO1.out)); clear HO1 HVB hbo hg2 ho2 hzk
            refine hK.out _ _ hP (fun hHeld => ?_)
            clear hK K
            refine wpAnyH_ready (rs := [5, 9]) (by kernel_rfl) (by simp) ?_
            refine AllReadyH.cons (List.getElem?_toArray.trans rfl) (fun K hK => ?_) (AllReadyH.cons (List.getElem?_toArray.trans rfl) (fun K hK => ?_) AllReadyH.nil)
            · go_simp
              go_at_call 5; (with_reducible refine (made_any KP HZR.out HZL.out A2 (n + 1) k2 (L ++ [d]) wc HDV.out (by have := HN.out; omega)).mono ?_); rintro e wc ⟨cs2, own2, rb2, rfl, hR2, ho2, hx2, hr2, hbn⟩; (try have HNE := Lib.hid (fun i hi => Nat.ne_of_gt (Nat.lt_of_lt_of_le HZB.out.lt (ho2 i hi).1))); replace HB0 := Lib.hid (HB0.out.trans (hbn.mono HB0.out.size)); have hP := HPS.out _ HB0.out; (try replace HO1 := Lib.hid (own_belowN HO1.out hbn)); (try replace HVB := Lib.hid ((Vs.below HVB.out hbn).mono hbn.size)); (try replace HDV := Lib.hid (show Dv _ _ _ _ _ from (Vs.below HDV.out hbn).mono hbn.size)); (try replace HZB := Lib.hid (HZB.out.below hbn)); (try replace HR2 := Lib.hid (KP.on HR2.out hbn)); have HR2 := Lib.hid hR2; clear hbn hR2 ho2 hx2 hr2 HDV
              refine hK.out _ _ hP (fun hHeld => ?_)
              clear hK K
              refine wpAnyH_take (i := 6) (v := ?_) (List.getElem?_toArray.trans rfl) (by kernel_rfl) (by kernel_rfl) (by kernel_rfl) (fun _ _ _ h => h) (Or.inl ⟨by rfl, ?_⟩) (by assumption) ?_
              case refine_2 => (intro w hSw; (try dsimp only at hSw); clear hSw; go_simp <;> with_reducible rfl)
              simp only [Act.put, List.setIfInBounds_toArray, List.set_cons_zero, List.set_cons_succ]
              refine wpAnyH_take (i := 7) (v := ?_) (List.getElem?_toArray.trans rfl) (by kernel_rfl) (by kernel_rfl) (by kernel_rfl) (fun _ _ _ h => h) (Or.inl ⟨by rfl, ?_⟩) (by assumption) ?_
              case refine_2 => (intro w hSw; (try dsimp only at hSw); clear hSw; go_simp <;> with_reducible rfl)
              simp only [Act.put, List.setIfInBounds_toArray, List.set_cons_zero, List.set_cons_succ]
              refine wpAnyH_take (i := 8) (v := ?_) (List.getElem?_toArray.trans rfl) (by kernel_rfl) (by kernel_rfl) (by kernel_rfl) (fun _ _ _ h => h) (Or.inl ⟨by rfl, ?_⟩) (by assumption) ?_
              case refine_2 => (intro w hSw; (try dsimp only at hSw); clear hSw; go_simp <;> with_reducible rfl)
              simp only [Act.put, List.setIfInBounds_toArray, List.set_cons_zero, List.set_cons_succ]
              refine wpAnyH_ready (rs := [9]) (by kernel_rfl) (by simp) ?_
              refine AllReadyH.cons (List.getElem?_toArray.trans rfl) (fun K hK => ?_) AllReadyH.nil
              go_simp; obtain ⟨bz, hbz⟩ : ∃ bz, bz = wc.heap.size := ⟨_, rfl⟩; rw [← hbz]; have hbn := (Below.refl wc.heap.size wc).alloc (Nat.le_refl _) (.cells z0.toArray 37); have hzb : IxBox (wc.alloc (.cells z0.toArray 37)) bz z0 := (by rw [hbz]; exact IxBox.new wc z0); (try have HNE : Hid (∀ i, own2 i → i ≠ bz) := Lib.hid fun i hi => Nat.ne_of_lt (by rw [hbz]; exact KP.lt HR2.out hi)); have HBZ := Lib.hid (show w3.heap.size ≤ bz by rw [hbz]; exact HB0.out.size); replace HB0 := Lib.hid (HB0.out.trans (hbn.mono HB0.out.size)); have hP := HPS.out _ HB0.out; (try replace HO1 := Lib.hid (own_belowN HO1.out hbn)); (try replace HVB := Lib.hid ((Vs.below HVB.out hbn).mono hbn.size)); (try replace HDV := Lib.hid (show Dv _ _ _ _ _ from (Vs.below HDV.out hbn).mono hbn.size)); (try replace HZB := Lib.hid (HZB.out.below hbn)); (try replace HR2 := Lib.hid (KP.on HR2.out hbn)); have HZB := Lib.hid hzb; clear hbn hzb hbz; generalize wc.alloc (.cells z0.toArray 37) = wc at *
              refine hK.out _ _ hP (fun hHeld => ?_)
              clear hK K
              refine wpAnyH_ready (rs := [10]) (by kernel_rfl) (by simp) ?_
              refine AllReadyH.cons (List.getElem?_toArray.trans rfl) (fun K hK => ?_) AllReadyH.nil
              rw [if_pos (by rfl)]; refine wp_store_mid 37 (.tmp 7) (.tmp 31) (by rfl) _ 0 cs2.toArray (by rfl) (by rfl) (HZB.out.there (by rw [HZL.out]; simpa using (KP.len HR2.out).symm)) (by rw [show cs2.toArray.size = sz by simpa using KP.len HR2.out]; exact KP.size) (all_oneCell_toArray (KP.one HR2.out)) ?_; rw [List.toList_toArray]; have HEND := Lib.hid (floors_put KP HZL.out HZB.out HR2.out HNE.out HB0.out HBZ.out); have hP := HPS.out _ HEND.out.2.2; generalize wc.setCells bz 0 cs2 = wc at *
              refine hK.out _ _ hP (fun hHeld => ?_)
              clear hK K
              refine wpAnyH_take (i := 11) (v := ?_) (List.getElem?_toArray.trans rfl) (by kernel_rfl) (by kernel_rfl) (by kernel_rfl) (fun _ _ _ h => h) (Or.inl ⟨by rfl, ?_⟩) (by assumption) ?_
              case refine_2 => (intro w hSw; (try dsimp only at hSw); clear hSw; go_simp <;> with_reducible rfl)
              simp only [Act.put, List.setIfInBounds_toArray, List.set_cons_zero, List.set_cons_succ]
              refine wpAnyH_done (by kernel_rfl) ?_ _
              refine NoPanic.normal ?_
              go_wp2_with fail
              go_meet
              exact ⟨bz, cs2, own2, rfl, HEND, HBZ⟩
            · go_simp; obtain ⟨bz, hbz⟩ : ∃ bz, bz = wc.heap.size := ⟨_, rfl⟩; rw [← hbz]; have hbn := (Below.refl wc.heap.size wc).alloc (Nat.le_refl _) (.cells z0.toArray 37); have hzb : IxBox (wc.alloc (.cells z0.toArray 37)) bz z0 := (by rw [hbz]; exact IxBox.new wc z0); (try have HNE : Hid (∀ i, own2 i → i ≠ bz) := Lib.hid fun i hi => Nat.ne_of_lt (by rw [hbz]; exact KP.lt HR2.out hi)); have HBZ := Lib.hid (show w3.heap.size ≤ bz by rw [hbz]; exact HB0.out.size); replace HB0 := Lib.hid (HB0.out.trans (hbn.mono HB0.out.size)); have hP := HPS.out _ HB0.out; (try replace HO1 := Lib.hid (own_belowN HO1.out hbn)); (try replace HVB := Lib.hid ((Vs.below HVB.out hbn).mono hbn.size)); (try replace HDV := Lib.hid (show Dv _ _ _ _ _ from (Vs.below HDV.out hbn).mono hbn.size)); (try replace HZB := Lib.hid (HZB.out.below hbn)); (try replace HR2 := Lib.hid (KP.on HR2.out hbn)); have HZB := Lib.hid hzb; clear hbn hzb hbz; generalize wc.alloc (.cells z0.toArray 37) = wc at *
              refine hK.out _ _ hP (fun hHeld => ?_)
              clear hK K
              refine wpAnyH_ready (rs := [5]) (by kernel_rfl) (by simp) ?_
              refine AllReadyH.cons (List.getElem?_toArray.trans rfl) (fun K hK => ?_) AllReadyH.nil
              go_simp
              go_at_call 5; (with_reducible refine (made_any KP HZR.out HZL.out A2 (n + 1) k2 (L ++ [d]) wc HDV.out (by have := HN.out; omega)).mono ?_); rintro e wc ⟨cs2, own2, rb2, rfl, hR2, ho2, hx2, hr2, hbn⟩; (try have HNE := Lib.hid (fun i hi => Nat.ne_of_gt (Nat.lt_of_lt_of_le HZB.out.lt (ho2 i hi).1))); replace HB0 := Lib.hid (HB0.out.trans (hbn.mono HB0.out.size)); have hP := HPS.out _ HB0.out; (try replace HO1 := Lib.hid (own_belowN HO1.out hbn)); (try replace HVB := Lib.hid ((Vs.below HVB.out hbn).mono hbn.size)); (try replace HDV := Lib.hid (show Dv _ _ _ _ _ from (Vs.below HDV.out hbn).mono hbn.size)); (try replace HZB := Lib.hid (HZB.out.below hbn)); (try replace HR2 := Lib.hid (KP.on HR2.out hbn)); have HR2 := Lib.hid hR2; clear hbn hR2 ho2 hx2 hr2 HDV
              refine hK.out _ _ hP (fun hHeld => ?_)
              clear hK K
              refine wpAnyH_take (i := 6) (v := ?_) (List.getElem?_toArray.trans rfl) (by kernel_rfl) (by kernel_rfl) (by kernel_rfl) (fun _ _ _ h => h) (Or.inl ⟨by rfl, ?_⟩) (by assumption) ?_
              case refine_2 => (intro w hSw; (try dsimp only at hSw); clear hSw; go_simp <;> with_reducible rfl)
              simp only [Act.put, List.setIfInBounds_toArray, List.set_cons_zero, List.set_cons_succ]
              refine wpAnyH_take (i := 7) (v := ?_) (List.getElem?_toArray.trans rfl) (by kernel_rfl) (by kernel_rfl) (by kernel_rfl) (fun _ _ _ h => h) (Or.inl ⟨by rfl, ?_⟩) (by assumption) ?_
              case refine_2 => (intro w hSw; (try dsimp only at hSw); clear hSw; go_simp <;> with_reducible rfl)
              simp only [Act.put, List.setIfInBounds_toArray, List.set_cons_zero, List.set_cons_succ]
              refine wpAnyH_take (i := 8) (v := ?_) (List.getElem?_toArray.trans rfl) (by kernel_rfl) (by kernel_rfl) (by kernel_rfl) (fun _ _ _ h => h) (Or.inl ⟨by rfl, ?_⟩) (by assumption) ?_
              case refine_2 => (intro w hSw; (try dsimp only at hSw); clear hSw; go_simp <;> with_reducible rfl)
              simp only [Act.put, List.setIfInBounds_toArray, List.set_cons_zero, List.set_cons_succ]
              refine wpAnyH_ready (rs := [10]) (by kernel_rfl) (by simp) ?_
              refine AllReadyH.cons (List.getElem?_toArray.trans rfl) (fun K hK => ?_) AllReadyH.nil
              rw [if_pos (by rfl)]; refine wp_store_mid 37 (.tmp 7) (.tmp 31) (by rfl) _ 0 cs2.toArray (by rfl) (by rfl) (HZB.out.there (by rw [HZL.out]; simpa using (KP.len HR2.out).symm)) (by rw [show cs2.toArray.size = sz by simpa using KP.len HR2.out]; exact KP.size) (all_oneCell_toArray (KP.one HR2.out)) ?_; rw [List.toList_toArray]; have HEND := Lib.hid (floors_put KP HZL.out HZB.out HR2.out HNE.out HB0.out HBZ.out); have hP := HPS.out _ HEND.out.2.2; generalize wc.setCells bz 0 cs2 = wc at *
              refine hK.out _ _ hP (fun hHeld => ?_)
              clear hK K
              refine wpAnyH_take (i := 11) (v := ?_) (List.getElem?_toArray.trans rfl) (by kernel_rfl) (by kernel_rfl) (by kernel_rfl) (fun _ _ _ h => h) (Or.inl ⟨by rfl, ?_⟩) (by assumption) ?_
              case refine_2 => (intro w hSw; (try dsimp only at hSw); clear hSw; go_simp <;> with_reducible rfl)
              simp only [Act.put, List.setIfInBounds_toArray, List.set_cons_zero, List.set_cons_succ]
              refine wpAnyH_done (by kernel_rfl) ?_ _
              refine NoPanic.normal ?_
              go_wp2_with fail
              go_meet
              exact ⟨bz, cs2, own2, rfl, HEND, HBZ⟩
          · go_simp; obtain ⟨bz, hbz⟩ : ∃ bz, bz = wc.heap.size := ⟨_, rfl⟩; rw [← hbz]; have hbn := (Below.refl wc.heap.size wc).alloc (Nat.le_refl _) (.cells z0.toArray 37); have hzb : IxBox (wc.alloc (.cells z0.toArray 37)) bz z0 := (by rw [hbz]; exact IxBox.new wc z0); (try have HNE : Hid (∀ i, own2 i → i ≠ bz) := Lib.hid fun i hi => Nat.ne_of_lt (by rw [hbz]; exact KP.lt HR2.out hi)); have HBZ := Lib.hid (show w3.heap.size ≤ bz by rw [hbz]; exact HB0.out.size); replace HB0 := Lib.hid (HB0.out.trans (hbn.mono HB0.out.size)); have hP := HPS.out _ HB0.out; (try replace HO1 := Lib.hid (own_belowN HO1.out hbn)); (try replace HVB := Lib.hid ((Vs.below HVB.out hbn).mono hbn.size)); (try replace HDV := Lib.hid (show Dv _ _ _ _ _ from (Vs.below HDV.out hbn).mono hbn.size)); (try replace HZB := Lib.hid (HZB.out.below hbn)); (try replace HR2 := Lib.hid (KP.on HR2.out hbn)); have HZB := Lib.hid hzb; clear hbn hzb hbz; generalize wc.alloc (.cells z0.toArray 37) = wc at *
            refine hK.out _ _ hP (fun hHeld => ?_)
            clear hK K
            refine wpAnyH_ready (rs := [4]) (by kernel_rfl) (by simp) ?_
            refine AllReadyH.cons (List.getElem?_toArray.trans rfl) (fun K hK => ?_) AllReadyH.nil
            refine step_append_rows (by rfl) _ _ _ (by rfl) w3.heap.size 28 i0 zz 9 80 Try.underlying22 HI0.out HZ0.out HSI.out HBI.out HZC.out (by omega) (.slice A1 n k1) n (ddV L) (by rfl) HO1.out _ _ 1 1 dc (by rfl) (by rw [Nat.one_mul, ← HCL.out]; simpa using HVB.out) HONE.out (n + 1) rfl (ddV (L ++ [d])) (by rw [HDC.out, ← ddV_append]) (by have := HN.out; omega) (by have := HN.out; omega) HB0.out.size ?_; intro A2 k2 wc ho2 hg2; have hbo := HB0.out.grown hg2 HB0.out.size (fun q hq => (HO1.out.lt q hq).1); have hzk := fun b (hb : b < w3.heap.size) => hb; replace HB0 := Lib.hid hbo; have hP := HPS.out _ HB0.out; have HDV := Lib.hid (dv_of_own ho2); (try replace HZB := Lib.hid (zb_kept HZB.out hg2 HO1.out)); clear HO1 HVB hbo hg2 ho2 hzk
            refine hK.out _ _ hP (fun hHeld => ?_)
            clear hK K
            refine wpAnyH_ready (rs := [5]) (by kernel_rfl) (by simp) ?_
            refine AllReadyH.cons (List.getElem?_toArray.trans rfl) (fun K hK => ?_) AllReadyH.nil
            go_simp
            go_at_call 5; (with_reducible refine (made_any KP HZR.out HZL.out A2 (n + 1) k2 (L ++ [d]) wc HDV.out (by have := HN.out; omega)).mono ?_); rintro e wc ⟨cs2, own2, rb2, rfl, hR2, ho2, hx2, hr2, hbn⟩; (try have HNE := Lib.hid (fun i hi => Nat.ne_of_gt (Nat.lt_of_lt_of_le HZB.out.lt (ho2 i hi).1))); replace HB0 := Lib.hid (HB0.out.trans (hbn.mono HB0.out.size)); have hP := HPS.out _ HB0.out; (try replace HO1 := Lib.hid (own_belowN HO1.out hbn)); (try replace HVB := Lib.hid ((Vs.below HVB.out hbn).mono hbn.size)); (try replace HDV := Lib.hid (show Dv _ _ _ _ _ from (Vs.below HDV.out hbn).mono hbn.size)); (try replace HZB := Lib.hid (HZB.out.below hbn)); (try replace HR2 := Lib.hid (KP.on HR2.out hbn)); have HR2 := Lib.hid hR2; clear hbn hR2 ho2 hx2 hr2 HDV
            refine hK.out _ _ hP (fun hHeld => ?_)
            clear hK K
            refine wpAnyH_take (i := 6) (v := ?_) (List.getElem?_toArray.trans rfl) (by kernel_rfl) (by kernel_rfl) (by kernel_rfl) (fun _ _ _ h => h) (Or.inl ⟨by rfl, ?_⟩) (by assumption) ?_
            case refine_2 => (intro w hSw; (try dsimp only at hSw); clear hSw; go_simp <;> with_reducible rfl)
            simp only [Act.put, List.setIfInBounds_toArray, List.set_cons_zero, List.set_cons_succ]
            refine wpAnyH_take (i := 7) (v := ?_) (List.getElem?_toArray.trans rfl) (by kernel_rfl) (by kernel_rfl) (by kernel_rfl) (fun _ _ _ h => h) (Or.inl ⟨by rfl, ?_⟩) (by assumption) ?_
            case refine_2 => (intro w hSw; (try dsimp only at hSw); clear hSw; go_simp <;> with_reducible rfl)
            simp only [Act.put, List.setIfInBounds_toArray, List.set_cons_zero, List.set_cons_succ]
            refine wpAnyH_take (i := 8) (v := ?_) (List.getElem?_toArray.trans rfl) (by kernel_rfl) (by kernel_rfl) (by kernel_rfl) (fun _ _ _ h => h) (Or.inl ⟨by rfl, ?_⟩) (by assumption) ?_
            case refine_2 => (intro w hSw; (try dsimp only at hSw); clear hSw; go_simp <;> with_reducible rfl)
            simp only [Act.put, List.setIfInBounds_toArray, List.set_cons_zero, List.set_cons_succ]
            refine wpAnyH_ready (rs := [10]) (by kernel_rfl) (by simp) ?_
            refine AllReadyH.cons (List.getElem?_toArray.trans rfl) (fun K hK => ?_) AllReadyH.nil
            rw [if_pos (by rfl)]; refine wp_store_mid 37 (.tmp 7) (.tmp 31) (by rfl) _ 0 cs2.toArray (by rfl) (by rfl) (HZB.out.there (by rw [HZL.out]; simpa using (KP.len HR2.out).symm)) (by rw [show cs2.toArray.size = sz by simpa using KP.len HR2.out]; exact KP.size) (all_oneCell_toArray (KP.one HR2.out)) ?_; rw [List.toList_toArray]; have HEND := Lib.hid (floors_put KP HZL.out HZB.out HR2.out HNE.out HB0.out HBZ.out); have hP := HPS.out _ HEND.out.2.2; generalize wc.setCells bz 0 cs2 = wc at *
            refine hK.out _ _ hP (fun hHeld => ?_)
            clear hK K
            refine wpAnyH_take (i := 11) (v := ?_) (List.getElem?_toArray.trans rfl) (by kernel_rfl) (by kernel_rfl) (by kernel_rfl) (fun _ _ _ h => h) (Or.inl ⟨by rfl, ?_⟩) (by assumption) ?_
            case refine_2 => (intro w hSw; (try dsimp only at hSw); clear hSw; go_simp <;> with_reducible rfl)
            simp only [Act.put, List.setIfInBounds_toArray, List.set_cons_zero, List.set_cons_succ]
            refine wpAnyH_done (by kernel_rfl) ?_ _
            refine NoPanic.normal ?_
            go_wp2_with fail
            go_meet
            exact ⟨bz, cs2, own2, rfl, HEND, HBZ⟩
        · go_simp; obtain ⟨bz, hbz⟩ : ∃ bz, bz = wc.heap.size := ⟨_, rfl⟩; rw [← hbz]; have hbn := (Below.refl wc.heap.size wc).alloc (Nat.le_refl _) (.cells z0.toArray 37); have hzb : IxBox (wc.alloc (.cells z0.toArray 37)) bz z0 := (by rw [hbz]; exact IxBox.new wc z0); (try have HNE : Hid (∀ i, own2 i → i ≠ bz) := Lib.hid fun i hi => Nat.ne_of_lt (by rw [hbz]; exact KP.lt HR2.out hi)); have HBZ := Lib.hid (show w3.heap.size ≤ bz by rw [hbz]; exact HB0.out.size); replace HB0 := Lib.hid (HB0.out.trans (hbn.mono HB0.out.size)); have hP := HPS.out _ HB0.out; (try replace HO1 := Lib.hid (own_belowN HO1.out hbn)); (try replace HVB := Lib.hid ((Vs.below HVB.out hbn).mono hbn.size)); (try replace HDV := Lib.hid (show Dv _ _ _ _ _ from (Vs.below HDV.out hbn).mono hbn.size)); (try replace HZB := Lib.hid (HZB.out.below hbn)); (try replace HR2 := Lib.hid (KP.on HR2.out hbn)); have HZB := Lib.hid hzb; clear hbn hzb hbz; generalize wc.alloc (.cells z0.toArray 37) = wc at *
          refine hK.out _ _ hP (fun hHeld => ?_)
          clear hK K
          refine wpAnyH_ready (rs := [1]) (by kernel_rfl) (by simp) ?_
          refine AllReadyH.cons (List.getElem?_toArray.trans rfl) (fun K hK => ?_) AllReadyH.nil
          refine step_append_rows (by rfl) _ _ _ (by rfl) w3.heap.size 28 i0 zz 9 80 Try.underlying22 HI0.out HZ0.out HSI.out HBI.out HZC.out (by omega) (.slice none 0 0) 0 [] (by rfl) (World.ownsRow_nil _ _ _ _) w.heap.size A n c (ddV L) (by rfl) (HAW.out _ HB0.out) (ddV_one L) n (Nat.zero_add n) (ddV L) (List.nil_append _) (by have := HN.out; omega) (by have := HN.out; omega) HB0.out.size ?_; intro A1 k1 wc ho1 hg1; have hbn := (Below.refl _ _).grown hg1 (Nat.le_refl _) (by simp [Value.ownBlock]); replace HB0 := Lib.hid (HB0.out.trans (hbn.mono HB0.out.size)); have hP := HPS.out _ HB0.out; (try replace HO1 := Lib.hid (own_belowN HO1.out hbn)); (try replace HVB := Lib.hid ((Vs.below HVB.out hbn).mono hbn.size)); (try replace HDV := Lib.hid (show Dv _ _ _ _ _ from (Vs.below HDV.out hbn).mono hbn.size)); (try replace HZB := Lib.hid (HZB.out.below hbn)); (try replace HR2 := Lib.hid (KP.on HR2.out hbn)); have HO1 := Lib.hid ho1; clear hbn ho1 hg1
          refine hK.out _ _ hP (fun hHeld => ?_)
          clear hK K
          refine wpAnyH_ready (rs := [4]) (by kernel_rfl) (by simp) ?_
          refine AllReadyH.cons (List.getElem?_toArray.trans rfl) (fun K hK => ?_) AllReadyH.nil
          refine step_append_rows (by rfl) _ _ _ (by rfl) w3.heap.size 28 i0 zz 9 80 Try.underlying22 HI0.out HZ0.out HSI.out HBI.out HZC.out (by omega) (.slice A1 n k1) n (ddV L) (by rfl) HO1.out _ _ 1 1 dc (by rfl) (by rw [Nat.one_mul, ← HCL.out]; simpa using HVB.out) HONE.out (n + 1) rfl (ddV (L ++ [d])) (by rw [HDC.out, ← ddV_append]) (by have := HN.out; omega) (by have := HN.out; omega) HB0.out.size ?_; intro A2 k2 wc ho2 hg2; have hbo := HB0.out.grown hg2 HB0.out.size (fun q hq => (HO1.out.lt q hq).1); have hzk := fun b (hb : b < w3.heap.size) => hb; replace HB0 := Lib.hid hbo; have hP := HPS.out _ HB0.out; have HDV := Lib.hid (dv_of_own ho2); (try replace HZB := Lib.hid (zb_kept HZB.out hg2 HO1.out)); clear HO1 HVB hbo hg2 ho2 hzk
          refine hK.out _ _ hP (fun hHeld => ?_)
          clear hK K
          refine wpAnyH_ready (rs := [5]) (by kernel_rfl) (by simp) ?_
          refine AllReadyH.cons (List.getElem?_toArray.trans rfl) (fun K hK => ?_) AllReadyH.nil
          go_simp
          go_at_call 5; (with_reducible refine (made_any KP HZR.out HZL.out A2 (n + 1) k2 (L ++ [d]) wc HDV.out (by have := HN.out; omega)).mono ?_); rintro e wc ⟨cs2, own2, rb2, rfl, hR2, ho2, hx2, hr2, hbn⟩; (try have HNE := Lib.hid (fun i hi => Nat.ne_of_gt (Nat.lt_of_lt_of_le HZB.out.lt (ho2 i hi).1))); replace HB0 := Lib.hid (HB0.out.trans (hbn.mono HB0.out.size)); have hP := HPS.out _ HB0.out; (try replace HO1 := Lib.hid (own_belowN HO1.out hbn)); (try replace HVB := Lib.hid ((Vs.below HVB.out hbn).mono hbn.size)); (try replace HDV := Lib.hid (show Dv _ _ _ _ _ from (Vs.below HDV.out hbn).mono hbn.size)); (try replace HZB := Lib.hid (HZB.out.below hbn)); (try replace HR2 := Lib.hid (KP.on HR2.out hbn)); have HR2 := Lib.hid hR2; clear hbn hR2 ho2 hx2 hr2 HDV
          refine hK.out _ _ hP (fun hHeld => ?_)
          clear hK K
          refine wpAnyH_take (i := 6) (v := ?_) (List.getElem?_toArray.trans rfl) (by kernel_rfl) (by kernel_rfl) (by kernel_rfl) (fun _ _ _ h => h) (Or.inl ⟨by rfl, ?_⟩) (by assumption) ?_
          case refine_2 => (intro w hSw; (try dsimp only at hSw); clear hSw; go_simp <;> with_reducible rfl)
          simp only [Act.put, List.setIfInBounds_toArray, List.set_cons_zero, List.set_cons_succ]
          refine wpAnyH_take (i := 7) (v := ?_) (List.getElem?_toArray.trans rfl) (by kernel_rfl) (by kernel_rfl) (by kernel_rfl) (fun _ _ _ h => h) (Or.inl ⟨by rfl, ?_⟩) (by assumption) ?_
          case refine_2 => (intro w hSw; (try dsimp only at hSw); clear hSw; go_simp <;> with_reducible rfl)
          simp only [Act.put, List.setIfInBounds_toArray, List.set_cons_zero, List.set_cons_succ]
          refine wpAnyH_take (i := 8) (v := ?_) (List.getElem?_toArray.trans rfl) (by kernel_rfl) (by kernel_rfl) (by kernel_rfl) (fun _ _ _ h => h) (Or.inl ⟨by rfl, ?_⟩) (by assumption) ?_
          case refine_2 => (intro w hSw; (try dsimp only at hSw); clear hSw; go_simp <;> with_reducible rfl)
          simp only [Act.put, List.setIfInBounds_toArray, List.set_cons_zero, List.set_cons_succ]
          refine wpAnyH_ready (rs := [10]) (by kernel_rfl) (by simp) ?_
          refine AllReadyH.cons (List.getElem?_toArray.trans rfl) (fun K hK => ?_) AllReadyH.nil
          rw [if_pos (by rfl)]; refine wp_store_mid 37 (.tmp 7) (.tmp 31) (by rfl) _ 0 cs2.toArray (by rfl) (by rfl) (HZB.out.there (by rw [HZL.out]; simpa using (KP.len HR2.out).symm)) (by rw [show cs2.toArray.size = sz by simpa using KP.len HR2.out]; exact KP.size) (all_oneCell_toArray (KP.one HR2.out)) ?_; rw [List.toList_toArray]; have HEND := Lib.hid (floors_put KP HZL.out HZB.out HR2.out HNE.out HB0.out HBZ.out); have hP := HPS.out _ HEND.out.2.2; generalize wc.setCells bz 0 cs2 = wc at *
          refine hK.out _ _ hP (fun hHeld => ?_)
          clear hK K
          refine wpAnyH_take (i := 11) (v := ?_) (List.getElem?_toArray.trans rfl) (by kernel_rfl) (by kernel_rfl) (by kernel_rfl) (fun _ _ _ h => h) (Or.inl ⟨by rfl, ?_⟩) (by assumption) ?_
          case refine_2 => (intro w hSw; (try dsimp only at hSw); clear hSw; go_simp <;> with_reducible rfl)
          simp only [Act.put, List.setIfInBounds_toArray, List.set_cons_zero, List.set_cons_succ]
          refine wpAnyH_done (by kernel_rfl) ?_ _
          refine NoPanic.normal ?_
          go_wp2_with fail
          go_meet
          exact ⟨bz, cs2, own2, rfl, HEND, HBZ⟩
      · go_simp; obtain ⟨bz, hbz⟩ : ∃ bz, bz = wc.heap.size := ⟨_, rfl⟩; rw [← hbz]; have hbn := (Below.refl wc.heap.size wc).alloc (Nat.le_refl _) (.cells z0.toArray 37); have hzb : IxBox (wc.alloc (.cells z0.toArray 37)) bz z0 := (by rw [hbz]; exact IxBox.new wc z0); (try have HNE : Hid (∀ i, own2 i → i ≠ bz) := Lib.hid fun i hi => Nat.ne_of_lt (by rw [hbz]; exact KP.lt HR2.out hi)); have HBZ := Lib.hid (show w3.heap.size ≤ bz by rw [hbz]; exact HB0.out.size); replace HB0 := Lib.hid (HB0.out.trans (hbn.mono HB0.out.size)); have hP := HPS.out _ HB0.out; (try replace HO1 := Lib.hid (own_belowN HO1.out hbn)); (try replace HVB := Lib.hid ((Vs.below HVB.out hbn).mono hbn.size)); (try replace HDV := Lib.hid (show Dv _ _ _ _ _ from (Vs.below HDV.out hbn).mono hbn.size)); (try replace HZB := Lib.hid (HZB.out.below hbn)); (try replace HR2 := Lib.hid (KP.on HR2.out hbn)); have HZB := Lib.hid hzb; clear hbn hzb hbz; generalize wc.alloc (.cells z0.toArray 37) = wc at *
        refine hK.out _ _ hP (fun hHeld => ?_)
        clear hK K
        refine wpAnyH_ready (rs := [1, 3]) (by kernel_rfl) (by simp) ?_
        refine AllReadyH.cons (List.getElem?_toArray.trans rfl) (fun K hK => ?_) (AllReadyH.cons (List.getElem?_toArray.trans rfl) (fun K hK => ?_) AllReadyH.nil)
        · refine step_append_rows (by rfl) _ _ _ (by rfl) w3.heap.size 28 i0 zz 9 80 Try.underlying22 HI0.out HZ0.out HSI.out HBI.out HZC.out (by omega) (.slice none 0 0) 0 [] (by rfl) (World.ownsRow_nil _ _ _ _) w.heap.size A n c (ddV L) (by rfl) (HAW.out _ HB0.out) (ddV_one L) n (Nat.zero_add n) (ddV L) (List.nil_append _) (by have := HN.out; omega) (by have := HN.out; omega) HB0.out.size ?_; intro A1 k1 wc ho1 hg1; have hbn := (Below.refl _ _).grown hg1 (Nat.le_refl _) (by simp [Value.ownBlock]); replace HB0 := Lib.hid (HB0.out.trans (hbn.mono HB0.out.size)); have hP := HPS.out _ HB0.out; (try replace HO1 := Lib.hid (own_belowN HO1.out hbn)); (try replace HVB := Lib.hid ((Vs.below HVB.out hbn).mono hbn.size)); (try replace HDV := Lib.hid (show Dv _ _ _ _ _ from (Vs.below HDV.out hbn).mono hbn.size)); (try replace HZB := Lib.hid (HZB.out.below hbn)); (try replace HR2 := Lib.hid (KP.on HR2.out hbn)); have HO1 := Lib.hid ho1; clear hbn ho1 hg1
          refine hK.out _ _ hP (fun hHeld => ?_)
          clear hK K
          refine wpAnyH_ready (rs := [3]) (by kernel_rfl) (by simp) ?_
          refine AllReadyH.cons (List.getElem?_toArray.trans rfl) (fun K hK => ?_) AllReadyH.nil
          go_simp; rw [build_nine HDC0.out]; go_simp; have hbn := (Below.refl wc.heap.size wc).alloc (Nat.le_refl _) (.cells dc.toArray 28); have hvb := (Vs.new wc 28 (0, 0) dc.toArray).mono (B' := (wc.alloc (.cells dc.toArray 28)).heap.size) (by simp); replace HB0 := Lib.hid (HB0.out.trans (hbn.mono HB0.out.size)); have hP := HPS.out _ HB0.out; (try replace HO1 := Lib.hid (own_belowN HO1.out hbn)); (try replace HVB := Lib.hid ((Vs.below HVB.out hbn).mono hbn.size)); (try replace HDV := Lib.hid (show Dv _ _ _ _ _ from (Vs.below HDV.out hbn).mono hbn.size)); (try replace HZB := Lib.hid (HZB.out.below hbn)); (try replace HR2 := Lib.hid (KP.on HR2.out hbn)); have HVB := Lib.hid hvb; clear hbn hvb; generalize wc.alloc (.cells dc.toArray 28) = wc at *
          refine hK.out _ _ hP (fun hHeld => ?_)
          clear hK K
          refine wpAnyH_ready (rs := [4]) (by kernel_rfl) (by simp) ?_
          refine AllReadyH.cons (List.getElem?_toArray.trans rfl) (fun K hK => ?_) AllReadyH.nil
          refine step_append_rows (by rfl) _ _ _ (by rfl) w3.heap.size 28 i0 zz 9 80 Try.underlying22 HI0.out HZ0.out HSI.out HBI.out HZC.out (by omega) (.slice A1 n k1) n (ddV L) (by rfl) HO1.out _ _ 1 1 dc (by rfl) (by rw [Nat.one_mul, ← HCL.out]; simpa using HVB.out) HONE.out (n + 1) rfl (ddV (L ++ [d])) (by rw [HDC.out, ← ddV_append]) (by have := HN.out; omega) (by have := HN.out; omega) HB0.out.size ?_; intro A2 k2 wc ho2 hg2; have hbo := HB0.out.grown hg2 HB0.out.size (fun q hq => (HO1.out.lt q hq).1); have hzk := fun b (hb : b < w3.heap.size) => hb; replace HB0 := Lib.hid hbo; have hP := HPS.out _ HB0.out; have HDV := Lib.hid (dv_of_own ho2); (try replace HZB := Lib.hid (zb_kept HZB.out hg2 HO1.out)); clear HO1 HVB hbo hg2 ho2 hzk
          refine hK.out _ _ hP (fun hHeld => ?_)
          clear hK K
          refine wpAnyH_ready (rs := [5]) (by kernel_rfl) (by simp) ?_
          refine AllReadyH.cons (List.getElem?_toArray.trans rfl) (fun K hK => ?_) AllReadyH.nil
          go_simp
          go_at_call 5; (with_reducible refine (made_any KP HZR.out HZL.out A2 (n + 1) k2 (L ++ [d]) wc HDV.out (by have := HN.out; omega)).mono ?_); rintro e wc ⟨cs2, own2, rb2, rfl, hR2, ho2, hx2, hr2, hbn⟩; (try have HNE := Lib.hid (fun i hi => Nat.ne_of_gt (Nat.lt_of_lt_of_le HZB.out.lt (ho2 i hi).1))); replace HB0 := Lib.hid (HB0.out.trans (hbn.mono HB0.out.size)); have hP := HPS.out _ HB0.out; (try replace HO1 := Lib.hid (own_belowN HO1.out hbn)); (try replace HVB := Lib.hid ((Vs.below HVB.out hbn).mono hbn.size)); (try replace HDV := Lib.hid (show Dv _ _ _ _ _ from (Vs.below HDV.out hbn).mono hbn.size)); (try replace HZB := Lib.hid (HZB.out.below hbn)); (try replace HR2 := Lib.hid (KP.on HR2.out hbn)); have HR2 := Lib.hid hR2; clear hbn hR2 ho2 hx2 hr2 HDV
          refine hK.out _ _ hP (fun hHeld => ?_)
          clear hK K
          refine wpAnyH_take (i := 6) (v := ?_) (List.getElem?_toArray.trans rfl) (by kernel_rfl) (by kernel_rfl) (by kernel_rfl) (fun _ _ _ h => h) (Or.inl ⟨by rfl, ?_⟩) (by assumption) ?_
          case refine_2 => (intro w hSw; (try dsimp only at hSw); clear hSw; go_simp <;> with_reducible rfl)
          simp only [Act.put, List.setIfInBounds_toArray, List.set_cons_zero, List.set_cons_succ]
          refine wpAnyH_take (i := 7) (v := ?_) (List.getElem?_toArray.trans rfl) (by kernel_rfl) (by kernel_rfl) (by kernel_rfl) (fun _ _ _ h => h) (Or.inl ⟨by rfl, ?_⟩) (by assumption) ?_
          case refine_2 => (intro w hSw; (try dsimp only at hSw); clear hSw; go_simp <;> with_reducible rfl)
          simp only [Act.put, List.setIfInBounds_toArray, List.set_cons_zero, List.set_cons_succ]
          refine wpAnyH_take (i := 8) (v := ?_) (List.getElem?_toArray.trans rfl) (by kernel_rfl) (by kernel_rfl) (by kernel_rfl) (fun _ _ _ h => h) (Or.inl ⟨by rfl, ?_⟩) (by assumption) ?_
          case refine_2 => (intro w hSw; (try dsimp only at hSw); clear hSw; go_simp <;> with_reducible rfl)
          simp only [Act.put, List.setIfInBounds_toArray, List.set_cons_zero, List.set_cons_succ]
          refine wpAnyH_ready (rs := [10]) (by kernel_rfl) (by simp) ?_
          refine AllReadyH.cons (List.getElem?_toArray.trans rfl) (fun K hK => ?_) AllReadyH.nil
          rw [if_pos (by rfl)]; refine wp_store_mid 37 (.tmp 7) (.tmp 31) (by rfl) _ 0 cs2.toArray (by rfl) (by rfl) (HZB.out.there (by rw [HZL.out]; simpa using (KP.len HR2.out).symm)) (by rw [show cs2.toArray.size = sz by simpa using KP.len HR2.out]; exact KP.size) (all_oneCell_toArray (KP.one HR2.out)) ?_; rw [List.toList_toArray]; have HEND := Lib.hid (floors_put KP HZL.out HZB.out HR2.out HNE.out HB0.out HBZ.out); have hP := HPS.out _ HEND.out.2.2; generalize wc.setCells bz 0 cs2 = wc at *
          refine hK.out _ _ hP (fun hHeld => ?_)
          clear hK K
          refine wpAnyH_take (i := 11) (v := ?_) (List.getElem?_toArray.trans rfl) (by kernel_rfl) (by kernel_rfl) (by kernel_rfl) (fun _ _ _ h => h) (Or.inl ⟨by rfl, ?_⟩) (by assumption) ?_
          case refine_2 => (intro w hSw; (try dsimp only at hSw); clear hSw; go_simp <;> with_reducible rfl)
          simp only [Act.put, List.setIfInBounds_toArray, List.set_cons_zero, List.set_cons_succ]
          refine wpAnyH_done (by kernel_rfl) ?_ _
          refine NoPanic.normal ?_
          go_wp2_with fail
          go_meet
          exact ⟨bz, cs2, own2, rfl, HEND, HBZ⟩
        · go_simp; rw [build_nine HDC0.out]; go_simp; have hbn := (Below.refl wc.heap.size wc).alloc (Nat.le_refl _) (.cells dc.toArray 28); have hvb := (Vs.new wc 28 (0, 0) dc.toArray).mono (B' := (wc.alloc (.cells dc.toArray 28)).heap.size) (by simp); replace HB0 := Lib.hid (HB0.out.trans (hbn.mono HB0.out.size)); have hP := HPS.out _ HB0.out; (try replace HO1 := Lib.hid (own_belowN HO1.out hbn)); (try replace HVB := Lib.hid ((Vs.below HVB.out hbn).mono hbn.size)); (try replace HDV := Lib.hid (show Dv _ _ _ _ _ from (Vs.below HDV.out hbn).mono hbn.size)); (try replace HZB := Lib.hid (HZB.out.below hbn)); (try replace HR2 := Lib.hid (KP.on HR2.out hbn)); have HVB := Lib.hid hvb; clear hbn hvb; generalize wc.alloc (.cells dc.toArray 28) = wc at *
          refine hK.out _ _ hP (fun hHeld => ?_)
          clear hK K
          refine wpAnyH_ready (rs := [1]) (by kernel_rfl) (by simp) ?_
          refine AllReadyH.cons (List.getElem?_toArray.trans rfl) (fun K hK => ?_) AllReadyH.nil
          refine step_append_rows (by rfl) _ _ _ (by rfl) w3.heap.size 28 i0 zz 9 80 Try.underlying22 HI0.out HZ0.out HSI.out HBI.out HZC.out (by omega) (.slice none 0 0) 0 [] (by rfl) (World.ownsRow_nil _ _ _ _) w.heap.size A n c (ddV L) (by rfl) (HAW.out _ HB0.out) (ddV_one L) n (Nat.zero_add n) (ddV L) (List.nil_append _) (by have := HN.out; omega) (by have := HN.out; omega) HB0.out.size ?_; intro A1 k1 wc ho1 hg1; have hbn := (Below.refl _ _).grown hg1 (Nat.le_refl _) (by simp [Value.ownBlock]); replace HB0 := Lib.hid (HB0.out.trans (hbn.mono HB0.out.size)); have hP := HPS.out _ HB0.out; (try replace HO1 := Lib.hid (own_belowN HO1.out hbn)); (try replace HVB := Lib.hid ((Vs.below HVB.out hbn).mono hbn.size)); (try replace HDV := Lib.hid (show Dv _ _ _ _ _ from (Vs.below HDV.out hbn).mono hbn.size)); (try replace HZB := Lib.hid (HZB.out.below hbn)); (try replace HR2 := Lib.hid (KP.on HR2.out hbn)); have HO1 := Lib.hid ho1; clear hbn ho1 hg1
          refine hK.out _ _ hP (fun hHeld => ?_)
          clear hK K
          refine wpAnyH_ready (rs := [4]) (by kernel_rfl) (by simp) ?_
          refine AllReadyH.cons (List.getElem?_toArray.trans rfl) (fun K hK => ?_) AllReadyH.nil
          refine step_append_rows (by rfl) _ _ _ (by rfl) w3.heap.size 28 i0 zz 9 80 Try.underlying22 HI0.out HZ0.out HSI.out HBI.out HZC.out (by omega) (.slice A1 n k1) n (ddV L) (by rfl) HO1.out _ _ 1 1 dc (by rfl) (by rw [Nat.one_mul, ← HCL.out]; simpa using HVB.out) HONE.out (n + 1) rfl (ddV (L ++ [d])) (by rw [HDC.out, ← ddV_append]) (by have := HN.out; omega) (by have := HN.out; omega) HB0.out.size ?_; intro A2 k2 wc ho2 hg2; have hbo := HB0.out.grown hg2 HB0.out.size (fun q hq => (HO1.out.lt q hq).1); have hzk := fun b (hb : b < w3.heap.size) => hb; replace HB0 := Lib.hid hbo; have hP := HPS.out _ HB0.out; have HDV := Lib.hid (dv_of_own ho2); (try replace HZB := Lib.hid (zb_kept HZB.out hg2 HO1.out)); clear HO1 HVB hbo hg2 ho2 hzk
          refine hK.out _ _ hP (fun hHeld => ?_)
          clear hK K
          refine wpAnyH_ready (rs := [5]) (by kernel_rfl) (by simp) ?_
          refine AllReadyH.cons (List.getElem?_toArray.trans rfl) (fun K hK => ?_) AllReadyH.nil
          go_simp
          go_at_call 5; (with_reducible refine (made_any KP HZR.out HZL.out A2 (n + 1) k2 (L ++ [d]) wc HDV.out (by have := HN.out; omega)).mono ?_); rintro e wc ⟨cs2, own2, rb2, rfl, hR2, ho2, hx2, hr2, hbn⟩; (try have HNE := Lib.hid (fun i hi => Nat.ne_of_gt (Nat.lt_of_lt_of_le HZB.out.lt (ho2 i hi).1))); replace HB0 := Lib.hid (HB0.out.trans (hbn.mono HB0.out.size)); have hP := HPS.out _ HB0.out; (try replace HO1 := Lib.hid (own_belowN HO1.out hbn)); (try replace HVB := Lib.hid ((Vs.below HVB.out hbn).mono hbn.size)); (try replace HDV := Lib.hid (show Dv _ _ _ _ _ from (Vs.below HDV.out hbn).mono hbn.size)); (try replace HZB := Lib.hid (HZB.out.below hbn)); (try replace HR2 := Lib.hid (KP.on HR2.out hbn)); have HR2 := Lib.hid hR2; clear hbn hR2 ho2 hx2 hr2 HDV
          refine hK.out _ _ hP (fun hHeld => ?_)
          clear hK K
          refine wpAnyH_take (i := 6) (v := ?_) (List.getElem?_toArray.trans rfl) (by kernel_rfl) (by kernel_rfl) (by kernel_rfl) (fun _ _ _ h => h) (Or.inl ⟨by rfl, ?_⟩) (by assumption) ?_
          case refine_2 => (intro w hSw; (try dsimp only at hSw); clear hSw; go_simp <;> with_reducible rfl)
          simp only [Act.put, List.setIfInBounds_toArray, List.set_cons_zero, List.set_cons_succ]
          refine wpAnyH_take (i := 7) (v := ?_) (List.getElem?_toArray.trans rfl) (by kernel_rfl) (by kernel_rfl) (by kernel_rfl) (fun _ _ _ h => h) (Or.inl ⟨by rfl, ?_⟩) (by assumption) ?_
          case refine_2 => (intro w hSw; (try dsimp only at hSw); clear hSw; go_simp <;> with_reducible rfl)
          simp only [Act.put, List.setIfInBounds_toArray, List.set_cons_zero, List.set_cons_succ]
          refine wpAnyH_take (i := 8) (v := ?_) (List.getElem?_toArray.trans rfl) (by kernel_rfl) (by kernel_rfl) (by kernel_rfl) (fun _ _ _ h => h) (Or.inl ⟨by rfl, ?_⟩) (by assumption) ?_
          case refine_2 => (intro w hSw; (try dsimp only at hSw); clear hSw; go_simp <;> with_reducible rfl)
          simp only [Act.put, List.setIfInBounds_toArray, List.set_cons_zero, List.set_cons_succ]
          refine wpAnyH_ready (rs := [10]) (by kernel_rfl) (by simp) ?_
          refine AllReadyH.cons (List.getElem?_toArray.trans rfl) (fun K hK => ?_) AllReadyH.nil
          rw [if_pos (by rfl)]; refine wp_store_mid 37 (.tmp 7) (.tmp 31) (by rfl) _ 0 cs2.toArray (by rfl) (by rfl) (HZB.out.there (by rw [HZL.out]; simpa using (KP.len HR2.out).symm)) (by rw [show cs2.toArray.size = sz by simpa using KP.len HR2.out]; exact KP.size) (all_oneCell_toArray (KP.one HR2.out)) ?_; rw [List.toList_toArray]; have HEND := Lib.hid (floors_put KP HZL.out HZB.out HR2.out HNE.out HB0.out HBZ.out); have hP := HPS.out _ HEND.out.2.2; generalize wc.setCells bz 0 cs2 = wc at *
          refine hK.out _ _ hP (fun hHeld => ?_)
          clear hK K
          refine wpAnyH_take (i := 11) (v := ?_) (List.getElem?_toArray.trans rfl) (by kernel_rfl) (by kernel_rfl) (by kernel_rfl) (fun _ _ _ h => h) (Or.inl ⟨by rfl, ?_⟩) (by assumption) ?_
          case refine_2 => (intro w hSw; (try dsimp only at hSw); clear hSw; go_simp <;> with_reducible rfl)
          simp only [Act.put, List.setIfInBounds_toArray, List.set_cons_zero, List.set_cons_succ]
          refine wpAnyH_done (by kernel_rfl) ?_ _
          refine NoPanic.normal ?_
          go_wp2_with fail
          go_meet
          exact ⟨bz, cs2, own2, rfl, HEND, HBZ⟩
    obtain ⟨bz, cs2, own2, rfl, HEND, HBZ⟩ := hcut
    have HF0 : Hid (FSt R w3 w2.heap.size cs1 own1 (Ix.made L) bz cs2 own2 (Ix.made (L ++ [d])) wc) := Lib.hid ⟨HXB.out.below HEND.out.2.2, KP.on HR1.out HEND.out.2.2, HEND.out.1, HEND.out.2.1, HEND.out.2.2⟩
    clear HEND HBZ HXB HR1 HB23 HW3 HD1 HD3 HB1 HPS HAW hP HB0 HI0 HZ0 HZC HSI HBI HZR HN HD HDD HCL HINF HONE HDC HDC0
    generalize w2.heap.size = bx at *
    have HOK1 := Lib.hid (Ix.ok_made L)
    have HOK2 := Lib.hid (Ix.ok_made (L ++ [d]))
    have HFL : Hid (∀ j, ((Ix.made L) j).fl ≤ ((Ix.made (L ++ [d])) j).fl) := Lib.hid fun j => by rw [Ix.made_snoc]; exact Ix.fl_deed _ d j
    have HFR : Hid (∀ j, Ix.Fresh ((Ix.made L) j) ((Ix.made (L ++ [d])) j)) := Lib.hid fun j => by rw [Ix.made_snoc]; exact Ix.fresh_deed _ d j
    have HXS1 : Hid ((Try.prog.info? 37).map (·.size) = some cs1.length) := Lib.hid (by rw [KP.len HF0.out.r1]; exact KP.size)
    have HXS2 : Hid ((Try.prog.info? 37).map (·.size) = some cs2.length) := Lib.hid (by rw [KP.len HF0.out.r2]; exact KP.size)
    clear HS
    generalize Ix.made L = S1 at *
    generalize Ix.made (L ++ [d]) = S2 at *
    go_wp2_with fail
    go_loopw [9] (fun i wr => ∃ j : Nat, j ≤ 16 ∧ i = .int .i64 j ∧ Hid (FSt R w3 bx cs1 own1 S1 bz cs2 own2 S2 wr)) (fun i _ => 16 - (intOf i).toNat)
    case atStart => exact ⟨0, by omega, rfl, HF0⟩
    case round =>
      clear HF0
      obtain ⟨j, hj, rfl, HF⟩ := hrel
      by_cases hlt : j < 16
      · have dj : decide ((j : Int) < 16) = true := decide_eq_true (by omega)
        have HJ := Lib.hid hlt
        have HG2 : Hid (∀ W, FSt R w3 bx cs1 own1 S1 bz cs2 own2 S2 W → Calls Try.prog 6 #[.agg cs2.toArray, .int .i64 j] W fun e W' => e = .returned (.tuple #[bdV (S2 j).bind, .bool (S2 j).b]) ∧ Below W.heap.size W W') := Lib.hid fun W h => by have := T.get (j : Int) h.r2 HOK2.out; rwa [Ix.see_of hlt] at this
        have HG1 : Hid (∀ W, FSt R w3 bx cs1 own1 S1 bz cs2 own2 S2 W → Calls Try.prog 6 #[.agg cs1.toArray, .int .i64 j] W fun e W' => e = .returned (.tuple #[bdV (S1 j).bind, .bool (S1 j).b]) ∧ Below W.heap.size W W') := Lib.hid fun W h => by have := T.get (j : Int) h.r1 HOK1.out; rwa [Ix.see_of hlt] at this
        have HL2 : Hid (∀ W, FSt R w3 bx cs1 own1 S1 bz cs2 own2 S2 W → Calls Try.prog 7 #[.agg cs2.toArray, .int .i64 j] W fun e W' => e = .returned (.int .i64 (S2 j).fl) ∧ Below W.heap.size W W') := Lib.hid fun W h => by have := T.floor (j : Int) h.r2 HOK2.out; rwa [Ix.see_of hlt] at this
        have HL1 : Hid (∀ W, FSt R w3 bx cs1 own1 S1 bz cs2 own2 S2 W → Calls Try.prog 7 #[.agg cs1.toArray, .int .i64 j] W fun e W' => e = .returned (.int .i64 (S1 j).fl) ∧ Below W.heap.size W W') := Lib.hid fun W h => by have := T.floor (j : Int) h.r1 HOK1.out; rwa [Ix.see_of hlt] at this
        have HSL : Hid (∀ W, FSt R w3 bx cs1 own1 S1 bz cs2 own2 S2 W → Calls Try.prog 8 #[.agg cs2.toArray, .int .i64 j] W fun e W' => ∃ m, e = .returned m ∧ Below W.heap.size W W' ∧ ∀ W2, Calls Try.prog 9 #[m] W2 fun e2 W3 => ∃ k : Int, e2 = .returned (.int .i64 k) ∧ ((S2 j).sl = [] → k = 0) ∧ Below W2.heap.size W2 W3) := Lib.hid fun W h => by have := TN.slices (j : Int) h.r2 HOK2.out; rwa [Ix.see_of hlt] at this
        have hfl := HFL.out j
        have hfr := HFR.out j
        have hab := (HOK2.out j).above
        clear HFL HFR hj
        generalize S2 j = s2 at *
        generalize S1 j = s1 at *
        obtain ⟨tb, td, ta, tl, tf, tt⟩ := s2
        obtain ⟨sb, sd, sa, sl, sf, st⟩ := s1
        unfold Ix.Fresh at hfr
        dsimp only at hfl hfr hab HG2 HG1 HL2 HL1 HSL
        have d1 : decide (tf < sf) = false := decide_eq_false (by omega)
        have HAB := Lib.hid hab
        have HFR := Lib.hid hfr
        clear hfl hfr hab
        go_upto_region 11 with (first
          | (refine wpList_load_mid (by rfl) 37 (.tmp 7) (by rfl) bz 0 (by rfl) cs2 _ HF.out.box2.range Try.underlying37 (by rfl) HXS2.out ?_)
          | (go_at_call 6; (with_reducible refine (HG2.out _ HF.out).mono ?_); rintro e w4 ⟨rfl, hb4⟩; have HF4 := Lib.hid (HF.out.on KP hb4); clear hb4))
        have HBD := Lib.hid (BdBox.new w4 td)
        have HF5 := Lib.hid (HF4.out.on KP ((Below.refl _ w4).alloc (Nat.le_refl _) (.cells #[.int .i64 td.obj, .int .i64 td.gen, .string td.tag, .int .i64 td.len, .int .i64 td.tick] 24)))
        obtain ⟨bb, hbb⟩ : ∃ bb, bb = w4.heap.size := ⟨_, rfl⟩
        rw [← hbb] at HBD ⊢
        generalize w4.alloc (.cells #[.int .i64 td.obj, .int .i64 td.gen, .string td.tag, .int .i64 td.len, .int .i64 td.tick] 24) = w5 at *
        clear hbb HF4
        have HPS : Hid (∀ W, FSt R w3 bx cs1 own1 S1 bz cs2 own2 S2 W → BdBox W bb td → W.rangeAt bz 0 cs2 ∧ W.rangeAt bx 0 cs1 ∧ W.cell? ⟨bb, 1, none⟩ = some (.int .i64 td.gen)) := Lib.hid fun W h h2 => ⟨h.box2.range, h.box1.range, h2.gen⟩
        go_cut [60] from 33 to 85 (fun s60 wx => s60 = .bool false ∧ Hid (FSt R w3 bx cs1 own1 S1 bz cs2 own2 S2 wx) ∧ Hid (BdBox wx bb td))
        case first =>
          replace HF5 := Lib.hid (HF5.out.on KP (Below.refl _ w5).drew)
          replace HBD := Lib.hid (HBD.out.on (Below.refl _ w5).drew)
          have hP := HPS.out _ HF5.out HBD.out
          cases tb
          refine wp_region_noPanic ?_
          refine wp_region_held_drew (S := (fun W => W.rangeAt bz 0 cs2 ∧ W.rangeAt bx 0 cs1 ∧ W.cell? ⟨bb, 1, none⟩ = some (.int .i64 td.gen))) (by kernel_rfl) hP (fun hHeld => ?_)
          generalize w5.drew = wc at *
          refine wpAnyH_take (i := 0) (v := .agg cs2.toArray) (List.getElem?_toArray.trans rfl) (by kernel_rfl) (by kernel_rfl) (by kernel_rfl) (fun _ _ _ h => h) ?_ (by assumption) ?_
          · exact yieldsIf_load_mid (by rfl) 37 _ (by rfl) bz 0 (by rfl) cs2 _ (fun _ h => h.1) Try.underlying37 (by rfl) HXS2.out
          simp only [Act.put, List.setIfInBounds_toArray, List.set_cons_zero, List.set_cons_succ]
          refine wpAnyH_take (i := 1) (v := ?_) (List.getElem?_toArray.trans rfl) (by kernel_rfl) (by kernel_rfl) (by kernel_rfl) (fun _ _ _ h => h) (Or.inl ⟨by rfl, ?_⟩) (by assumption) ?_
          case refine_2 => (intro w hSw; (try dsimp only at hSw); clear hSw; go_simp <;> with_reducible rfl)
          simp only [Act.put, List.setIfInBounds_toArray, List.set_cons_zero, List.set_cons_succ]
          refine wpAnyH_take (i := 3) (v := .agg cs1.toArray) (List.getElem?_toArray.trans rfl) (by kernel_rfl) (by kernel_rfl) (by kernel_rfl) (fun _ _ _ h => h) ?_ (by assumption) ?_
          · exact yieldsIf_load_mid (by rfl) 37 _ (by rfl) bx 0 (by rfl) cs1 _ (fun _ h => h.2.1) Try.underlying37 (by rfl) HXS1.out
          simp only [Act.put, List.setIfInBounds_toArray, List.set_cons_zero, List.set_cons_succ]
          refine wpAnyH_take (i := 4) (v := ?_) (List.getElem?_toArray.trans rfl) (by kernel_rfl) (by kernel_rfl) (by kernel_rfl) (fun _ _ _ h => h) (Or.inl ⟨by rfl, ?_⟩) (by assumption) ?_
          case refine_2 => (intro w hSw; (try dsimp only at hSw); clear hSw; go_simp <;> with_reducible rfl)
          simp only [Act.put, List.setIfInBounds_toArray, List.set_cons_zero, List.set_cons_succ]
          refine wpAnyH_ready (rs := [2]) (by kernel_rfl) (by simp) ?_
          refine AllReadyH.cons (List.getElem?_toArray.trans rfl) (fun K hK => ?_) AllReadyH.nil
          go_simp
          go_at_call 7; (with_reducible refine (HL2.out _ HF5.out).mono ?_); rintro e wc ⟨rfl, hbn⟩; replace HBD := Lib.hid (HBD.out.on hbn); replace HF5 := Lib.hid (HF5.out.on KP hbn); have hP := HPS.out _ HF5.out HBD.out; clear hbn
          refine hK.out _ _ hP (fun hHeld => ?_)
          clear hK K
          refine wpAnyH_ready (rs := [5]) (by kernel_rfl) (by simp) ?_
          refine AllReadyH.cons (List.getElem?_toArray.trans rfl) (fun K hK => ?_) AllReadyH.nil
          go_simp
          go_at_call 7; (with_reducible refine (HL1.out _ HF5.out).mono ?_); rintro e wc ⟨rfl, hbn⟩; replace HBD := Lib.hid (HBD.out.on hbn); replace HF5 := Lib.hid (HF5.out.on KP hbn); have hP := HPS.out _ HF5.out HBD.out; clear hbn
          refine hK.out _ _ hP (fun hHeld => ?_)
          clear hK K
          refine wpAnyH_take (i := 6) (v := ?_) (List.getElem?_toArray.trans rfl) (by kernel_rfl) (by kernel_rfl) (by kernel_rfl) (fun _ _ _ h => h) (Or.inl ⟨by rfl, ?_⟩) (by assumption) ?_
          case refine_2 => (intro w hSw; (try dsimp only at hSw); clear hSw; go_simp <;> with_reducible rfl)
          simp only [Act.put, List.setIfInBounds_toArray, List.set_cons_zero, List.set_cons_succ]
          refine wpAnyH_take (i := 7) (v := ?_) (List.getElem?_toArray.trans rfl) (by kernel_rfl) (by kernel_rfl) (by kernel_rfl) (fun _ _ _ h => h) (Or.inl ⟨by rfl, ?_⟩) (by assumption) ?_
          case refine_2 => (intro w hSw; (try dsimp only at hSw); clear hSw; go_simp <;> with_reducible rfl)
          simp only [Act.put, List.setIfInBounds_toArray, List.set_cons_zero, List.set_cons_succ]
          refine wpAnyH_take (i := 8) (v := ?_) (List.getElem?_toArray.trans rfl) (by kernel_rfl) (by kernel_rfl) (by kernel_rfl) (fun _ _ _ h => h) (Or.inl ⟨by rfl, ?_⟩) (by assumption) ?_
          case refine_2 => (intro w hSw; (try dsimp only at hSw); clear hSw; go_simp <;> with_reducible rfl)
          simp only [Act.put, List.setIfInBounds_toArray, List.set_cons_zero, List.set_cons_succ]
          refine wpAnyH_take (i := 9) (v := ?_) (List.getElem?_toArray.trans rfl) (by kernel_rfl) (by kernel_rfl) (by kernel_rfl) (fun _ _ _ h => h) (Or.inl ⟨by rfl, ?_⟩) (by assumption) ?_
          case refine_2 => (intro w hSw; (try dsimp only at hSw); clear hSw; go_simp <;> with_reducible rfl)
          simp only [Act.put, List.setIfInBounds_toArray, List.set_cons_zero, List.set_cons_succ]
          refine wpAnyH_take (i := 10) (v := undef) (List.getElem?_toArray.trans rfl) (by kernel_rfl) (by kernel_rfl) (by kernel_rfl) (fun _ _ _ h => h) (Or.inr ⟨by rfl, rfl⟩) (by assumption) ?_
          simp only [Act.put, List.setIfInBounds_toArray, List.set_cons_zero, List.set_cons_succ]
          refine wpAnyH_take (i := 11) (v := undef) (List.getElem?_toArray.trans rfl) (by kernel_rfl) (by kernel_rfl) (by kernel_rfl) (fun _ _ _ h => h) (Or.inr ⟨by rfl, rfl⟩) (by assumption) ?_
          simp only [Act.put, List.setIfInBounds_toArray, List.set_cons_zero, List.set_cons_succ]
          refine wpAnyH_take (i := 12) (v := undef) (List.getElem?_toArray.trans rfl) (by kernel_rfl) (by kernel_rfl) (by kernel_rfl) (fun _ _ _ h => h) (Or.inr ⟨by rfl, rfl⟩) (by assumption) ?_
          simp only [Act.put, List.setIfInBounds_toArray, List.set_cons_zero, List.set_cons_succ]
          refine wpAnyH_take (i := 13) (v := undef) (List.getElem?_toArray.trans rfl) (by kernel_rfl) (by kernel_rfl) (by kernel_rfl) (fun _ _ _ h => h) (Or.inr ⟨by rfl, rfl⟩) (by assumption) ?_
          simp only [Act.put, List.setIfInBounds_toArray, List.set_cons_zero, List.set_cons_succ]
          refine wpAnyH_take (i := 14) (v := undef) (List.getElem?_toArray.trans rfl) (by kernel_rfl) (by kernel_rfl) (by kernel_rfl) (fun _ _ _ h => h) (Or.inr ⟨by rfl, rfl⟩) (by assumption) ?_
          simp only [Act.put, List.setIfInBounds_toArray, List.set_cons_zero, List.set_cons_succ]
          refine wpAnyH_take (i := 15) (v := undef) (List.getElem?_toArray.trans rfl) (by kernel_rfl) (by kernel_rfl) (by kernel_rfl) (fun _ _ _ h => h) (Or.inr ⟨by rfl, rfl⟩) (by assumption) ?_
          simp only [Act.put, List.setIfInBounds_toArray, List.set_cons_zero, List.set_cons_succ]
          refine wpAnyH_take (i := 16) (v := ?_) (List.getElem?_toArray.trans rfl) (by kernel_rfl) (by kernel_rfl) (by kernel_rfl) (fun _ _ _ h => h) (Or.inl ⟨by rfl, ?_⟩) (by assumption) ?_
          case refine_2 => (intro w hSw; (try dsimp only at hSw); clear hSw; go_simp <;> with_reducible rfl)
          simp only [Act.put, List.setIfInBounds_toArray, List.set_cons_zero, List.set_cons_succ]
          refine wpAnyH_take (i := 17) (v := ?_) (List.getElem?_toArray.trans rfl) (by kernel_rfl) (by kernel_rfl) (by kernel_rfl) (fun _ _ _ h => h) (Or.inl ⟨by rfl, ?_⟩) (by assumption) ?_
          case refine_2 => (intro w hSw; (try dsimp only at hSw); clear hSw; go_simp <;> with_reducible rfl)
          simp only [Act.put, List.setIfInBounds_toArray, List.set_cons_zero, List.set_cons_succ]
          refine wpAnyH_done (by kernel_rfl) ?_ _
          refine NoPanic.normal ?_
          go_wp2_with fail
          go_meet
          exact ⟨rfl, HF5, HBD⟩
          have d2 : decide (td.gen ≤ tf) = false := decide_eq_false (by have := HAB.out (by trivial); omega)
          refine wp_region_noPanic ?_
          refine wp_region_held_drew (S := (fun W => W.rangeAt bz 0 cs2 ∧ W.rangeAt bx 0 cs1 ∧ W.cell? ⟨bb, 1, none⟩ = some (.int .i64 td.gen))) (by kernel_rfl) hP (fun hHeld => ?_)
          generalize w5.drew = wc at *
          refine wpAnyH_take (i := 0) (v := .agg cs2.toArray) (List.getElem?_toArray.trans rfl) (by kernel_rfl) (by kernel_rfl) (by kernel_rfl) (fun _ _ _ h => h) ?_ (by assumption) ?_
          · exact yieldsIf_load_mid (by rfl) 37 _ (by rfl) bz 0 (by rfl) cs2 _ (fun _ h => h.1) Try.underlying37 (by rfl) HXS2.out
          simp only [Act.put, List.setIfInBounds_toArray, List.set_cons_zero, List.set_cons_succ]
          refine wpAnyH_take (i := 1) (v := ?_) (List.getElem?_toArray.trans rfl) (by kernel_rfl) (by kernel_rfl) (by kernel_rfl) (fun _ _ _ h => h) (Or.inl ⟨by rfl, ?_⟩) (by assumption) ?_
          case refine_2 => (intro w hSw; (try dsimp only at hSw); clear hSw; go_simp <;> with_reducible rfl)
          simp only [Act.put, List.setIfInBounds_toArray, List.set_cons_zero, List.set_cons_succ]
          refine wpAnyH_take (i := 3) (v := .agg cs1.toArray) (List.getElem?_toArray.trans rfl) (by kernel_rfl) (by kernel_rfl) (by kernel_rfl) (fun _ _ _ h => h) ?_ (by assumption) ?_
          · exact yieldsIf_load_mid (by rfl) 37 _ (by rfl) bx 0 (by rfl) cs1 _ (fun _ h => h.2.1) Try.underlying37 (by rfl) HXS1.out
          simp only [Act.put, List.setIfInBounds_toArray, List.set_cons_zero, List.set_cons_succ]
          refine wpAnyH_take (i := 4) (v := ?_) (List.getElem?_toArray.trans rfl) (by kernel_rfl) (by kernel_rfl) (by kernel_rfl) (fun _ _ _ h => h) (Or.inl ⟨by rfl, ?_⟩) (by assumption) ?_
          case refine_2 => (intro w hSw; (try dsimp only at hSw); clear hSw; go_simp <;> with_reducible rfl)
          simp only [Act.put, List.setIfInBounds_toArray, List.set_cons_zero, List.set_cons_succ]
          refine wpAnyH_ready (rs := [2]) (by kernel_rfl) (by simp) ?_
          refine AllReadyH.cons (List.getElem?_toArray.trans rfl) (fun K hK => ?_) AllReadyH.nil
          go_simp
          go_at_call 7; (with_reducible refine (HL2.out _ HF5.out).mono ?_); rintro e wc ⟨rfl, hbn⟩; replace HBD := Lib.hid (HBD.out.on hbn); replace HF5 := Lib.hid (HF5.out.on KP hbn); have hP := HPS.out _ HF5.out HBD.out; clear hbn
          refine hK.out _ _ hP (fun hHeld => ?_)
          clear hK K
          refine wpAnyH_ready (rs := [5]) (by kernel_rfl) (by simp) ?_
          refine AllReadyH.cons (List.getElem?_toArray.trans rfl) (fun K hK => ?_) AllReadyH.nil
          go_simp
          go_at_call 7; (with_reducible refine (HL1.out _ HF5.out).mono ?_); rintro e wc ⟨rfl, hbn⟩; replace HBD := Lib.hid (HBD.out.on hbn); replace HF5 := Lib.hid (HF5.out.on KP hbn); have hP := HPS.out _ HF5.out HBD.out; clear hbn
          refine hK.out _ _ hP (fun hHeld => ?_)
          clear hK K
          refine wpAnyH_take (i := 6) (v := ?_) (List.getElem?_toArray.trans rfl) (by kernel_rfl) (by kernel_rfl) (by kernel_rfl) (fun _ _ _ h => h) (Or.inl ⟨by rfl, ?_⟩) (by assumption) ?_
          case refine_2 => (intro w hSw; (try dsimp only at hSw); clear hSw; go_simp <;> with_reducible rfl)
          simp only [Act.put, List.setIfInBounds_toArray, List.set_cons_zero, List.set_cons_succ]
          refine wpAnyH_take (i := 7) (v := ?_) (List.getElem?_toArray.trans rfl) (by kernel_rfl) (by kernel_rfl) (by kernel_rfl) (fun _ _ _ h => h) (Or.inl ⟨by rfl, ?_⟩) (by assumption) ?_
          case refine_2 => (intro w hSw; (try dsimp only at hSw); clear hSw; go_simp <;> with_reducible rfl)
          simp only [Act.put, List.setIfInBounds_toArray, List.set_cons_zero, List.set_cons_succ]
          refine wpAnyH_take (i := 8) (v := ?_) (List.getElem?_toArray.trans rfl) (by kernel_rfl) (by kernel_rfl) (by kernel_rfl) (fun _ _ _ h => h) (Or.inl ⟨by rfl, ?_⟩) (by assumption) ?_
          case refine_2 => (intro w hSw; (try dsimp only at hSw); clear hSw; go_simp <;> with_reducible rfl)
          simp only [Act.put, List.setIfInBounds_toArray, List.set_cons_zero, List.set_cons_succ]
          refine wpAnyH_take (i := 9) (v := ?_) (List.getElem?_toArray.trans rfl) (by kernel_rfl) (by kernel_rfl) (by kernel_rfl) (fun _ _ _ h => h) (Or.inl ⟨by rfl, ?_⟩) (by assumption) ?_
          case refine_2 => (intro w hSw; (try dsimp only at hSw); clear hSw; go_simp <;> with_reducible rfl)
          simp only [Act.put, List.setIfInBounds_toArray, List.set_cons_zero, List.set_cons_succ]
          refine wpAnyH_take (i := 10) (v := ?_) (List.getElem?_toArray.trans rfl) (by kernel_rfl) (by kernel_rfl) (by kernel_rfl) (fun _ _ _ h => h) (Or.inl ⟨by rfl, ?_⟩) (by assumption) ?_
          case refine_2 => (intro w hSw; (try dsimp only at hSw); clear hSw; go_simp <;> with_reducible rfl)
          simp only [Act.put, List.setIfInBounds_toArray, List.set_cons_zero, List.set_cons_succ]
          refine wpAnyH_take (i := 11) (v := .int .i64 td.gen) (List.getElem?_toArray.trans rfl) (by kernel_rfl) (by kernel_rfl) (by kernel_rfl) (fun _ _ _ h => h) ?_ (by assumption) ?_
          · exact Or.inl ⟨by rfl, by (intro W hSW; have h3 := hSW.2.2; clear hSW; go_simp <;> with_reducible rfl)⟩
          simp only [Act.put, List.setIfInBounds_toArray, List.set_cons_zero, List.set_cons_succ]
          refine wpAnyH_take (i := 12) (v := .agg cs2.toArray) (List.getElem?_toArray.trans rfl) (by kernel_rfl) (by kernel_rfl) (by kernel_rfl) (fun _ _ _ h => h) ?_ (by assumption) ?_
          · exact yieldsIf_load_mid (by rfl) 37 _ (by rfl) bz 0 (by rfl) cs2 _ (fun _ h => h.1) Try.underlying37 (by rfl) HXS2.out
          simp only [Act.put, List.setIfInBounds_toArray, List.set_cons_zero, List.set_cons_succ]
          refine wpAnyH_take (i := 13) (v := ?_) (List.getElem?_toArray.trans rfl) (by kernel_rfl) (by kernel_rfl) (by kernel_rfl) (fun _ _ _ h => h) (Or.inl ⟨by rfl, ?_⟩) (by assumption) ?_
          case refine_2 => (intro w hSw; (try dsimp only at hSw); clear hSw; go_simp <;> with_reducible rfl)
          simp only [Act.put, List.setIfInBounds_toArray, List.set_cons_zero, List.set_cons_succ]
          refine wpAnyH_ready (rs := [14]) (by kernel_rfl) (by simp) ?_
          refine AllReadyH.cons (List.getElem?_toArray.trans rfl) (fun K hK => ?_) AllReadyH.nil
          go_simp
          go_at_call 7; (with_reducible refine (HL2.out _ HF5.out).mono ?_); rintro e wc ⟨rfl, hbn⟩; replace HBD := Lib.hid (HBD.out.on hbn); replace HF5 := Lib.hid (HF5.out.on KP hbn); have hP := HPS.out _ HF5.out HBD.out; clear hbn
          refine hK.out _ _ hP (fun hHeld => ?_)
          clear hK K
          refine wpAnyH_take (i := 15) (v := ?_) (List.getElem?_toArray.trans rfl) (by kernel_rfl) (by kernel_rfl) (by kernel_rfl) (fun _ _ _ h => h) (Or.inl ⟨by rfl, ?_⟩) (by assumption) ?_
          case refine_2 => (intro w hSw; (try dsimp only at hSw); clear hSw; go_simp <;> with_reducible rfl)
          simp only [Act.put, List.setIfInBounds_toArray, List.set_cons_zero, List.set_cons_succ]
          refine wpAnyH_take (i := 16) (v := ?_) (List.getElem?_toArray.trans rfl) (by kernel_rfl) (by kernel_rfl) (by kernel_rfl) (fun _ _ _ h => h) (Or.inl ⟨by rfl, ?_⟩) (by assumption) ?_
          case refine_2 => (intro w hSw; (try dsimp only at hSw); clear hSw; go_simp <;> with_reducible rfl)
          simp only [Act.put, List.setIfInBounds_toArray, List.set_cons_zero, List.set_cons_succ]
          refine wpAnyH_take (i := 17) (v := ?_) (List.getElem?_toArray.trans rfl) (by kernel_rfl) (by kernel_rfl) (by kernel_rfl) (fun _ _ _ h => h) (Or.inl ⟨by rfl, ?_⟩) (by assumption) ?_
          case refine_2 => (intro w hSw; (try dsimp only at hSw); clear hSw; go_simp <;> with_reducible rfl)
          simp only [Act.put, List.setIfInBounds_toArray, List.set_cons_zero, List.set_cons_succ]
          refine wpAnyH_done (by kernel_rfl) ?_ _
          refine NoPanic.normal ?_
          go_wp2_with fail
          go_meet
          exact ⟨rfl, HF5, HBD⟩
        obtain ⟨rfl, HF6, HBD6⟩ := hcut
        clear HF5 HBD HF HG2 HL1 HL2 HPS
        go_upto_region 14 with (first
          | (refine wpList_load_mid (by rfl) 37 (.tmp 5) (by rfl) bx 0 (by rfl) cs1 _ HF6.out.box1.range Try.underlying37 (by rfl) HXS1.out ?_)
          | (go_at_call 6; (with_reducible refine (HG1.out _ HF6.out).mono ?_); rintro e w6 ⟨rfl, hb6⟩; replace HF6 := Lib.hid (HF6.out.on KP hb6); replace HBD6 := Lib.hid (HBD6.out.on hb6); clear hb6))
        have HBA := Lib.hid (BdBox.new w6 sd)
        have hba := (Below.refl _ w6).alloc (Nat.le_refl _) (.cells #[.int .i64 sd.obj, .int .i64 sd.gen, .string sd.tag, .int .i64 sd.len, .int .i64 sd.tick] 24)
        have HF7 := Lib.hid (HF6.out.on KP hba)
        have HBD7 := Lib.hid (HBD6.out.on hba)
        obtain ⟨ba, hbb⟩ : ∃ ba, ba = w6.heap.size := ⟨_, rfl⟩
        rw [← hbb] at HBA ⊢
        clear hba HF6 HBD6
        generalize w6.alloc (.cells #[.int .i64 sd.obj, .int .i64 sd.gen, .string sd.tag, .int .i64 sd.len, .int .i64 sd.tick] 24) = w7 at *
        clear hbb
        have g1 := HBD7.out.gen
        have g2 := HBA.out.gen
        cases tb
        · go_wp2_with fail
          go_roundw
          case rel => exact ⟨j + 1, by have := HJ.out; omega, by go_num, HF7⟩
          case measure => have := HJ.out; simp [intOf]; omega
        · cases sb
          · have HTL := Lib.hid (HFR.out (by trivial) (.inl rfl))
            go_wp2_with fail
            refine wp_load_mid 37 (.tmp 7) (by rfl) bz 0 (by rfl) cs2 _ HF7.out.box2.range Try.underlying37 (by rfl) HXS2.out ?_
            rename_i Kk hk
            refine hk _ _ ?_
            clear hk
            go_wp2_with (first
            | (go_at_call 8; (with_reducible refine (HSL.out _ HF7.out).mono ?_); rintro e w8 ⟨m, rfl, hb8, hlen⟩; have HF8 := Lib.hid (HF7.out.on KP hb8); have hlk := hlen w8; clear hb8 hlen)
            | (go_at_call 9; (with_reducible refine hlk.mono ?_); rintro e w9 ⟨k, rfl, hk0, hb9⟩; obtain rfl := hk0 HTL.out; have HF9 := Lib.hid (HF8.out.on KP hb9); clear hb9 hlk hk0))
            go_roundw
            case rel => exact ⟨j + 1, by have := HJ.out; omega, by go_num, HF9⟩
            case measure => have := HJ.out; simp [intOf]; omega
          · by_cases hg : sd.gen = td.gen
            · have d3 : (sd.gen != td.gen) = false := by simp [hg]
              clear hg
              go_wp2_with fail
              go_roundw
              case rel => exact ⟨j + 1, by have := HJ.out; omega, by go_num, HF7⟩
              case measure => have := HJ.out; simp [intOf]; omega
            · have d3 : (sd.gen != td.gen) = true := by simp [hg]
              have HTL := Lib.hid (HFR.out (by trivial) (.inr hg))
              clear hg
              go_wp2_with fail
              refine wp_load_mid 37 (.tmp 7) (by rfl) bz 0 (by rfl) cs2 _ HF7.out.box2.range Try.underlying37 (by rfl) HXS2.out ?_
              rename_i Kk hk
              refine hk _ _ ?_
              clear hk
              go_wp2_with (first
            | (go_at_call 8; (with_reducible refine (HSL.out _ HF7.out).mono ?_); rintro e w8 ⟨m, rfl, hb8, hlen⟩; have HF8 := Lib.hid (HF7.out.on KP hb8); have hlk := hlen w8; clear hb8 hlen)
            | (go_at_call 9; (with_reducible refine hlk.mono ?_); rintro e w9 ⟨k, rfl, hk0, hb9⟩; obtain rfl := hk0 HTL.out; have HF9 := Lib.hid (HF8.out.on KP hb9); clear hb9 hlk hk0))
              go_roundw
              case rel => exact ⟨j + 1, by have := HJ.out; omega, by go_num, HF9⟩
              case measure => have := HJ.out; simp [intOf]; omega
      · have dj : decide ((j : Int) < 16) = false := decide_eq_false (by omega)
        go_wp2_with fail
        go_ret
        exact ⟨rfl, HB3.out.trans (HF.out.below.mono HB3.out.size)⟩
end
end Go.Proofs.Ytcmhodimkpkmbaa
