/-
  Like: whether the program's index is the document's.
-/
import Derived.Test.YtcmhodimkpkmbaaDoorIxLikeA
namespace Go.Proofs.YtcmhodimkpkmbaaDoor
open Go.ChangeShapes Go.WideShapes Go.ChangeAt Go.RowKit
set_option maxRecDepth 100000

theorem objs_congr {S T : Ix.St} (h : ∀ j : Nat, j < 16 → S j = T j) : objs S 16 = objsI T 17 := by
  show objs S 16 = objs T 16
  unfold objs
  rw [List.filter_congr fun x hx => by rw [h x (List.mem_range.1 hx)]]
set_option maxHeartbeats 16000000 in
theorem like_any {own : Nat → Prop} {w : World} {cs : List Value} {S T : Ix.St} {rb : Nat} (ht : Tab64 w) (h : LIx own w cs S) (hx : RIx w rb T) (hS : Ix.Ok S) (hT : Ix.Ok T) :
    Calls Tryd.prog 8 #[.agg cs.toArray, .pointer (some ⟨rb, 0, none⟩)] w fun e w' => e = .returned (.bool (sameI S T)) ∧ Below w.heap.size w w' := by
  obtain ⟨q, hq⟩ : ∃ q, q = sameI S T := ⟨_, rfl⟩
  have HFAIL : Hid (∀ o, Ix.see S o ≠ Ix.see T o → q = false) := Lib.hid fun o ho => by rw [hq]; exact fail_diff hS hT ho
  have HGOOD : Hid ((∀ j : Nat, j < 16 → S j = T j) → q = true) := Lib.hid fun he => by rw [hq]; exact (sameI_iff hS hT).2 he
  rw [← hq]
  have HT := Lib.hid ht
  have HIX := Lib.hid h
  have HRX := Lib.hid hx
  have HS := Lib.hid hS
  have HTT := Lib.hid hT
  have HSZ : Hid ((Tryd.prog.info? 35).map (·.size) = some cs.length) := Lib.hid (by rw [h.len]; exact ix_size)
  have HB : Hid (Below w.heap.size w (w.alloc (.cells cs.toArray 35))) := Lib.hid ((Below.refl _ w).alloc (Nat.le_refl _) _)
  have HX0 : Hid (IxBox (w.alloc (.cells cs.toArray 35)) w.heap.size cs) := Lib.hid (heap_alloc_new w _)
  obtain ⟨i0, hi, hz0, hz1, hz2⟩ := info_parts int_infoS
  have HI0 := Lib.hid hi
  have HZ := Lib.hid hz0
  have HSI := Lib.hid hz1
  have HBY := Lib.hid hz2
  clear hq ht h hx hS hT hi hz0 hz1 hz2
  go_enter Tryd.func8, Tryd.ntmps8
  go_wp2_with fail
  go_loopw [5, 6] (fun v o wr => ∃ (ob : Int) (m : Nat) (A : Option Addr) (c : Nat), -1 ≤ ob ∧ ob ≤ 17 ∧ o = .int .i64 ob ∧ v = .slice A m c ∧ Hid (Lkw w wr S T cs ob m (.slice A m c))) (fun _ o _ => (17 - intOf o).toNat)
  case atStart => exact ⟨-1, 0, none, 0, by omega, by omega, rfl, rfl, Lib.hid ⟨fun j _ hj => absurd hj (by omega), rfl, ⟨rfl, .inl ⟨rfl, rfl⟩⟩, HX0.out, HB.out⟩⟩
  case round =>
    obtain ⟨ob, m, A, c, hlo, hhi, rfl, rfl, HL⟩ := hrel
    by_cases hob : ob ≤ 16
    · have d1 : decide (ob ≤ 16) = true := decide_eq_true hob
      have HLO := Lib.hid hlo
      have HHI := Lib.hid hob
      clear hlo hhi hob
      obtain ⟨wa, hwa⟩ : ∃ wa, wa = wr.alloc (.cells (slotC Ix.sl0 (.slice none 0 0)).toArray 44) := ⟨_, rfl⟩
      have hba : Below wr.heap.size wr wa := by rw [hwa]; exact (Below.refl _ wr).alloc (Nat.le_refl _) _
      have hsa : ScBox wa wr.heap.size Ix.sl0 (.slice none 0 0) := by rw [hwa]; exact heap_alloc_new wr _
      have HBA := Lib.hid hba
      have HSA := Lib.hid hsa
      have hwa' : wa = wr.alloc (.cells #[.bool false, .int .i64 0, .int .i64 0, .string { data := #[] }, .int .i64 0, .int .i64 0, .int .i64 0, .int .i64 0, .slice none 0 0, .int .i64 0, .int .i64 0, .int .i64 0] 44) := hwa
      clear hwa hba hsa
      go_upto_region 6 with fail
      rw [← hwa']
      clear hwa'
      go_cut [30] (fun s30 wx => s30 = .bool (Ix.may ob) ∧ wa = wx)
      case first =>
        by_cases h1 : 0 ≤ ob
        · by_cases h2 : ob < 16
          · have k1 : decide (0 ≤ ob) = true := decide_eq_true h1
            have k2 : decide (ob < 16) = true := decide_eq_true h2
            have HM : Hid (Ix.may ob = true) := Lib.hid (by unfold Ix.may; exact decide_eq_true (by omega))
            clear h1 h2
            go_wp2_with fail
            go_meet
            exact ⟨by rw [HM.out], rfl⟩
          · have k1 : decide (0 ≤ ob) = true := decide_eq_true h1
            have k2 : decide (ob < 16) = false := decide_eq_false h2
            have HM : Hid (Ix.may ob = false) := Lib.hid (by unfold Ix.may; exact decide_eq_false (by omega))
            clear h1 h2
            go_wp2_with fail
            go_meet
            exact ⟨by rw [HM.out], rfl⟩
        · have k1 : decide (0 ≤ ob) = false := decide_eq_false h1
          have HM : Hid (Ix.may ob = false) := Lib.hid (by unfold Ix.may; exact decide_eq_false (by omega))
          clear h1
          go_wp2_with fail
          go_meet
          exact ⟨by rw [HM.out], rfl⟩
      case rest =>
        obtain ⟨rfl, rfl⟩ := hcut
        go_upto_if 30 with fail
        go_cut [] (fun wx => ∃ vh, Hid (ScBox wx wr.heap.size (Ix.see T ob) vh ∧ SRow w rb vh (Ix.see T ob).sl ∧ Below wr.heap.size wr wx))
        case first =>
          cases hm : Ix.may ob
          · have HE : Hid (Ix.see T ob = Ix.sl0) := Lib.hid (by unfold Ix.see; rw [hm]; rfl)
            clear hm
            go_wp2_with fail
            go_meet
            exact ⟨.slice none 0 0, Lib.hid (by rw [HE.out]; exact ⟨HSA.out, SRow.nil _ _, HBA.out⟩)⟩
          · have hob : 0 ≤ ob ∧ ob ≤ 15 := by unfold Ix.may at hm; exact of_decide_eq_true hm
            obtain ⟨k, rfl⟩ : ∃ k : Nat, ob = (k : Int) := ⟨ob.toNat, by omega⟩
            have hk : k < 16 := by omega
            have HE : Hid (Ix.see T (k : Int) = T k) := Lib.hid (Ix.see_of9 hk)
            have HLT : Hid (rb < w.heap.size) := Lib.hid HRX.out.lt
            obtain ⟨H, hH, hrow⟩ := HRX.out
            have hbb := HL.out.below.trans (HBA.out.mono HL.out.below.size)
            have hHa := (hbb.block rb HLT.out).trans hH
            have HRG := Lib.hid (slot_range hHa hk)
            have HSL : Hid ((Tryd.prog.info? 44).map (·.size) = some (slotC (T k) (H k)).length) := Lib.hid slot12_size
            have HSL2 : Hid ((Tryd.prog.info? 44).map (·.size) = some (slotC (T k) (H k)).toArray.size) := Lib.hid slot12_size
            have HTH : Hid (wa.there wr.heap.size 0 (slotC (T k) (H k)).toArray.size) := Lib.hid (fun j hj => by
              rw [Nat.zero_add, cells_at HSA.out]
              have hj2 : j < 12 := hj
              exact ⟨by rw [List.getElem?_eq_getElem (by rw [slotC_length]; exact hj2)]; rfl, cells_frozen HSA.out _⟩)
            have HOC := Lib.hid (all_oneCell_toArray (slotC_one (T k) (hrow k hk).one))
            have HEND : Hid (ScBox (wa.setCells wr.heap.size 0 (slotC (T k) (H k))) wr.heap.size (T k) (H k) ∧ SRow w rb (H k) (T k).sl ∧ Below wr.heap.size wr (wa.setCells wr.heap.size 0 (slotC (T k) (H k)))) := Lib.hid (by
              refine ⟨?_, hrow k hk, below_row _ _ _ _ (Nat.le_refl _) HBA.out⟩
              have hz : wa.heap[wr.heap.size]? = some (.cells ([] ++ slotC Ix.sl0 (.slice none 0 0) ++ []).toArray 44 (0, 0)) := by
                rw [List.nil_append, List.append_nil]
                exact HSA.out
              have h9 := setCells_mid wr.heap.size 44 (slotC (T k) (H k)) (slotC Ix.sl0 (.slice none 0 0)) [] [] wa rfl hz
              rw [List.nil_append, List.append_nil] at h9
              exact h9)
            have hk0 : (0 : Int) ≤ (k : Int) := by omega
            have hk1 : (k : Int) < 16 := by omega
            have HV : Hid (∃ vh, vh = H k) := Lib.hid ⟨_, rfl⟩
            generalize H k = vh at *
            generalize T k = tk at *
            generalize slotC tk vh = dz at *
            clear hm hob hk hH hrow hbb hHa
            go_wp2_with (first
              | (refine wpList_load_mid (by rfl) 44 (.tmp 35) (by rfl) rb (k * 12) (by rfl) dz _ HRG.out Tryd.underlying44 (by rfl) HSL.out ?_)
              | (refine wpList_store_mid (by rfl) 44 (.tmp 7) (.tmp 36) (by rfl) wr.heap.size 0 dz.toArray (by rfl) (by rfl) HTH.out HSL2.out HOC.out ?_; rw [List.toList_toArray]))
            go_meet
            exact ⟨vh, Lib.hid (by rw [HE.out]; exact HEND.out)⟩
        case rest =>
          obtain ⟨vh, HC⟩ := hcut
          obtain ⟨w7, rfl⟩ : ∃ w7, w7 = wc := ⟨_, rfl⟩
          have HSR := Lib.hid HC.out.2.1
          have HB7 : Hid (Below w.heap.size w w7) := Lib.hid (HL.out.below.trans (HC.out.2.2.mono HL.out.below.size))
          have HR7 : Hid (w7.ownsRow w.heap.size 3 1 (.slice A m c) m (nums .i64 (objsI T ob))) := Lib.hid (own_belowN HL.out.row HC.out.2.2)
          have HX7 : Hid (IxBox w7 w.heap.size cs) := Lib.hid (HL.out.box.below HC.out.2.2)
          have HS7 : Hid (ScBox w7 wr.heap.size (Ix.see T ob) vh) := Lib.hid HC.out.1
          have HML : Hid (m ≤ 16) := Lib.hid (by rw [HL.out.len]; exact objsI_len T ob)
          have HOY := Lib.hid (objsI_yes (T := T) (o := ob))
          have HON := Lib.hid (objsI_no (T := T) HLO.out)
          have c0 := HC.out.1.cells.1
          have HLEN := Lib.hid HL.out.len
          clear HC
          obtain ⟨s, hs⟩ : ∃ s, s = Ix.see T ob := ⟨_, rfl⟩
          have HEQ := Lib.hid hs
          rw [← hs] at HSR HS7 HOY HON c0
          obtain ⟨sb, hsb⟩ : ∃ sb, sb = s.b := ⟨_, rfl⟩
          rw [← hsb] at HOY HON c0
          clear hs hsb
          go_upto_if 38 with fail
          go_cut [5] (fun s5 wx => ∃ (m9 : Nat) (A9 : Option Addr) (c9 : Nat), s5 = .slice A9 m9 c9 ∧ Hid (m9 = (objsI T (ob + 1)).length ∧ wx.ownsRow w.heap.size 3 1 (.slice A9 m9 c9) m9 (nums .i64 (objsI T (ob + 1))) ∧ ScBox wx wr.heap.size s vh ∧ IxBox wx w.heap.size cs ∧ Below w.heap.size w wx))
          case first =>
            cases sb
            · have HN2 := Lib.hid (HON.out rfl)
              clear HON HOY
              go_wp2_with fail
              go_meet
              exact ⟨m, A, c, rfl, Lib.hid (by rw [HN2.out]; exact ⟨HLEN.out, HR7.out, HS7.out, HX7.out, HB7.out⟩)⟩
            · have HY2 := Lib.hid (HOY.out rfl)
              clear HON HOY
              go_wp2_with (at_builtin; refine wpList_append_vals (o := ⟨some 42, _, _, _, _, _⟩) rfl (.tmp 39) (.tmp 41) 68 rfl w.heap.size 3 i0 _ 8 Tryd.underlying68 HI0.out HZ.out HSI.out HBY.out rfl _ m (nums .i64 (objsI T ob)) rfl (HR7.out.alloc _) (w7.heap.size + 1) (some ⟨w7.heap.size, 0, none⟩) 1 1 [.int .i64 ob] rfl (Vs.new w7 3 (0, 0) #[.int .i64 ob]) (by intro u hu; simp at hu; subst hu; rfl) (by have := HML.out; omega) (by have := HML.out; omega) (by have := HB7.out.size; simp; omega) ?_; intro v2 w8 HO8 HG8)
              obtain ⟨A2, c2, rfl, -, -⟩ := Vs.of_own HO8.out
              go_meet
              have hb8 := HB7.out.alloc HB7.out.size (.cells #[.int .i64 ob] 3)
              have ho := HO8.out
              rw [show [Value.int .i64 ob] = nums .i64 [ob] from rfl, nums_append, ← HY2.out] at ho
              exact ⟨m + 1, A2, c2, rfl, Lib.hid ⟨by rw [HY2.out, List.length_append, ← HLEN.out]; rfl, ho, var_kept (W := w7.alloc (.cells #[.int .i64 ob] 3)) ((Below.heap_alloc _ _ _ HS7.out.lt).trans HS7.out) (by decide) HG8.out (HR7.out.alloc _), var_kept (W := w7.alloc (.cells #[.int .i64 ob] 3)) ((Below.heap_alloc _ _ _ HX7.out.lt).trans HX7.out) (by decide) HG8.out (HR7.out.alloc _), hb8.grown HG8.out hb8.size (fun q hq => (HR7.out.lt q hq).1)⟩⟩
          case rest =>
            obtain ⟨m9, A9, c9, rfl, HC⟩ := hcut
            obtain ⟨w9, rfl⟩ : ∃ w9, w9 = wc := ⟨_, rfl⟩
            have HX9 : Hid (IxBox w9 w.heap.size cs) := Lib.hid HC.out.2.2.2.1
            have HB9 : Hid (Below w.heap.size w w9) := Lib.hid HC.out.2.2.2.2
            have HS9 : Hid (ScBox w9 wr.heap.size s vh) := Lib.hid HC.out.2.2.1
            have HR9 : Hid (w9.ownsRow w.heap.size 3 1 (.slice A9 m9 c9) m9 (nums .i64 (objsI T (ob + 1)))) := Lib.hid HC.out.2.1
            have HM9 : Hid (m9 = (objsI T (ob + 1)).length) := Lib.hid HC.out.1
            clear HC HR7 HX7 HS7 HML HOY HON c0 HLEN HB7 HBA HSA
            have cG := fun W (hb : Below w.heap.size w W) => lxGet_any ob (HIX.out.below hb) HS.out
            have cW := fun W (hb : Below w.heap.size w W) => lxWhere_any ob (HIX.out.below hb) HS.out
            have cT := fun W (hb : Below w.heap.size w W) => lxTomb_any ob (HIX.out.below hb)
            obtain ⟨p, hp⟩ : ∃ p, p = Ix.see S ob := ⟨_, rfl⟩
            have HPQ := Lib.hid hp
            rw [← hp] at cG cW cT
            clear hp
            obtain ⟨pb, ⟨po, pg, ptg, pln, ptk⟩, ⟨p1, p2⟩, psl, pfl, ⟨pt1, pt2⟩⟩ := p
            obtain ⟨xb, ⟨so, sg, stg, sln, stk⟩, ⟨s1, s2⟩, sl, fl, ⟨t1, t2⟩⟩ := s
            dsimp only at cG cW cT
            go_upto_if 67 with (first
              | (refine wpList_load_mid (by rfl) 35 (.tmp 2) (by rfl) w.heap.size 0 (by rfl) cs _ HX9.out.range Tryd.underlying35 (by rfl) HSZ.out ?_)
              | (go_at_call 15; (with_reducible refine (cG _ HB9.out).mono ?_); rintro e wG ⟨rfl, hbG⟩; have hbG2 := hbG.alloc hbG.size (bdO ⟨po, pg, ptg, pln, ptk⟩); have HBG := Lib.hid hbG2; have HXG := Lib.hid (HX9.out.below hbG2); have HBWG := Lib.hid (HB9.out.trans (hbG2.mono HB9.out.size)); clear hbG hbG2 HX9)
              | (refine wpList_load_mid (by rfl) 35 (.tmp 2) (by rfl) w.heap.size 0 (by rfl) cs _ HXG.out.range Tryd.underlying35 (by rfl) HSZ.out ?_)
              | (go_at_call 22; (with_reducible refine (cW _ HBWG.out).mono ?_); rintro e wW ⟨rfl, hbW⟩; have hbW2 := hbW.alloc hbW.size (adO (p1, p2)); have HBW := Lib.hid hbW2; have HXW := Lib.hid (HXG.out.below hbW2); have HBWW := Lib.hid (HBWG.out.trans (hbW2.mono HBWG.out.size)); have HBw := Lib.hid hbW; clear hbW hbW2 HXG)
              | (refine wpList_load_mid (by rfl) 35 (.tmp 2) (by rfl) w.heap.size 0 (by rfl) cs _ HXW.out.range Tryd.underlying35 (by rfl) HSZ.out ?_)
              | (go_at_call 23; (with_reducible refine (cT _ HBWW.out).mono ?_); rintro e wT ⟨rfl, hbT⟩; have hbT2 := hbT.alloc hbT.size (adO (pt1, pt2)); have HBT := Lib.hid hbT2; have HXT := Lib.hid (HXW.out.below hbT2); have HBWT := Lib.hid (HBWW.out.trans (hbT2.mono HBWW.out.size)); have HBt := Lib.hid hbT; have h7 := ((HBG.out.trans (HBW.out.mono HBG.out.size)).trans (hbT2.mono (HBG.out.trans (HBW.out.mono HBG.out.size)).size)).block _ HS9.out.lt |>.trans HS9.out; have h8 := ((HBW.out.trans (hbT2.mono HBW.out.size)).block wG.heap.size (by simp)).trans (heap_alloc_new wG (bdO ⟨po, pg, ptg, pln, ptk⟩)); have h10 := (hbT2.block wW.heap.size (by simp)).trans (heap_alloc_new wW (adO (p1, p2))); have h12 := heap_alloc_new wT (adO (pt1, pt2)); have HF := Lib.hid (And.intro h7 (And.intro h8 (And.intro h10 h12))); have y2 := (ScBox.cells h7).2.2.1; have y9 := (ScBox.cells h7).2.2.2.2.2.2.2.2.2.1; have HRZ := Lib.hid (own_belowN (own_belowN (own_belowN HR9.out HBG.out) HBW.out) hbT2); clear hbT hbT2 h7 h8 h10 h12))
            obtain ⟨wz, hwz⟩ : ∃ wz, wz = wT.alloc (.cells #[.int .i64 pt1, .int .i64 pt2] 30) := ⟨_, rfl⟩
            try dsimp only at y2 y9 HF
            rw [← hwz] at y2 y9 ⊢
            have hxz := HXT.out
            have hbz := HBWT.out
            have hrz := HRZ.out
            have hfz := HF.out
            try dsimp only [adO, bdO] at hxz hbz hrz hfz
            rw [← hwz] at hxz hbz hrz hfz
            have HXZ := Lib.hid hxz
            have HBZ := Lib.hid hbz
            have HRZ2 := Lib.hid hrz
            have HFZ := Lib.hid hfz
            obtain ⟨b7, hb7⟩ : ∃ b, b = wr.heap.size := ⟨_, rfl⟩
            obtain ⟨b8, hb8⟩ : ∃ b, b = wG.heap.size := ⟨_, rfl⟩
            obtain ⟨b10, hb10⟩ : ∃ b, b = wW.heap.size := ⟨_, rfl⟩
            obtain ⟨b12, hb12⟩ : ∃ b, b = wT.heap.size := ⟨_, rfl⟩
            rw [← hb7, ← hb8, ← hb10, ← hb12] at HFZ
            rw [← hb7, ← hb8, ← hb10, ← hb12]
            rw [← hb7] at y2 y9
            have HB7W := Lib.hid hb7
            have HB78 : Hid (w.heap.size ≤ b7) := Lib.hid (by rw [hb7]; exact HL.out.below.size)
            clear hwz hxz hbz hrz hfz hb7 hb8 hb10 hb12 HF HXT HBWT HRZ HBG HBWG HBW HXW HBWW HBw HBT HBt HB9 HS9 HR9 cG cW cT
            go_cut [14] (fun s14 wx => s14 = .int .i64 (lastI ⟨xb, ⟨so, sg, stg, sln, stk⟩, (s1, s2), sl, fl, (t1, t2)⟩) ∧ wz = wx)
            case first =>
              by_cases h1 : fl < sg
              · have k1 : decide (fl < sg) = true := decide_eq_true h1
                have HE : Hid (lastI ⟨xb, ⟨so, sg, stg, sln, stk⟩, (s1, s2), sl, fl, (t1, t2)⟩ = sg) := Lib.hid (if_pos h1)
                rw [k1]
                clear h1 k1
                go_wp2_with fail
                go_meet
                exact ⟨by rw [HE.out], rfl⟩
              · have k1 : decide (fl < sg) = false := decide_eq_false h1
                have HE : Hid (lastI ⟨xb, ⟨so, sg, stg, sln, stk⟩, (s1, s2), sl, fl, (t1, t2)⟩ = fl) := Lib.hid (if_neg h1)
                rw [k1]
                clear h1 k1
                go_wp2_with fail
                go_meet
                exact ⟨by rw [HE.out], rfl⟩
            case rest =>
              obtain ⟨rfl, rfl⟩ := hcut
              have hq2 := bd_neq ⟨po, pg, ptg, pln, ptk⟩ ⟨so, sg, stg, sln, stk⟩
              have hq4 := ad_neq (p1, p2) (s1, s2)
              have hq5 := ad_neq (pt1, pt2) (t1, t2)
              obtain ⟨r2, hr2⟩ : ∃ r, r = bdB ⟨po, pg, ptg, pln, ptk⟩ ⟨so, sg, stg, sln, stk⟩ := ⟨_, rfl⟩
              obtain ⟨r4, hr4⟩ : ∃ r, r = adB (p1, p2) (s1, s2) := ⟨_, rfl⟩
              obtain ⟨r5, hr5⟩ : ∃ r, r = adB (pt1, pt2) (t1, t2) := ⟨_, rfl⟩
              obtain ⟨g1, hg1⟩ : ∃ g, g = decide (0 < pfl) := ⟨_, rfl⟩
              obtain ⟨g2, hg2⟩ : ∃ g, g = decide (0 < fl) := ⟨_, rfl⟩
              rw [← hr2] at hq2
              rw [← hr4] at hq4
              rw [← hr5] at hq5
              rw [← hg1]
              have HQ1 := Lib.hid (fun (h : pb ≠ xb) => show (⟨pb, ⟨po, pg, ptg, pln, ptk⟩, (p1, p2), psl, pfl, (pt1, pt2)⟩ : Ix.Sl) ≠ ⟨xb, ⟨so, sg, stg, sln, stk⟩, (s1, s2), sl, fl, (t1, t2)⟩ from fun e => h (congrArg Ix.Sl.b e))
              have HQ2 := Lib.hid (fun (h : r2 = false) => show (⟨pb, ⟨po, pg, ptg, pln, ptk⟩, (p1, p2), psl, pfl, (pt1, pt2)⟩ : Ix.Sl) ≠ ⟨xb, ⟨so, sg, stg, sln, stk⟩, (s1, s2), sl, fl, (t1, t2)⟩ from fun e => by have h1 := bdB_iff.2 (congrArg Ix.Sl.bind e); rw [← hr2, h] at h1; cases h1)
              have HQ4 := Lib.hid (fun (h : r4 = false) => show (⟨pb, ⟨po, pg, ptg, pln, ptk⟩, (p1, p2), psl, pfl, (pt1, pt2)⟩ : Ix.Sl) ≠ ⟨xb, ⟨so, sg, stg, sln, stk⟩, (s1, s2), sl, fl, (t1, t2)⟩ from fun e => by have h1 := adB_iff.2 (congrArg Ix.Sl.at_ e); rw [← hr4, h] at h1; cases h1)
              have HQ5 := Lib.hid (fun (h : r5 = false) => show (⟨pb, ⟨po, pg, ptg, pln, ptk⟩, (p1, p2), psl, pfl, (pt1, pt2)⟩ : Ix.Sl) ≠ ⟨xb, ⟨so, sg, stg, sln, stk⟩, (s1, s2), sl, fl, (t1, t2)⟩ from fun e => by have h1 := adB_iff.2 (congrArg Ix.Sl.tomb e); rw [← hr5, h] at h1; cases h1)
              have HQ7 := Lib.hid (fun (h : ¬ pfl = fl) => show (⟨pb, ⟨po, pg, ptg, pln, ptk⟩, (p1, p2), psl, pfl, (pt1, pt2)⟩ : Ix.Sl) ≠ ⟨xb, ⟨so, sg, stg, sln, stk⟩, (s1, s2), sl, fl, (t1, t2)⟩ from fun e => h (congrArg Ix.Sl.fl e))
              have HQ6 := Lib.hid (fun (h : g1 ≠ g2) => show (⟨pb, ⟨po, pg, ptg, pln, ptk⟩, (p1, p2), psl, pfl, (pt1, pt2)⟩ : Ix.Sl) ≠ ⟨xb, ⟨so, sg, stg, sln, stk⟩, (s1, s2), sl, fl, (t1, t2)⟩ from fun e => h (by rw [hg1, hg2, show pfl = fl from congrArg Ix.Sl.fl e]))
              have HQ8 := Lib.hid (fun (h : lastI ⟨pb, ⟨po, pg, ptg, pln, ptk⟩, (p1, p2), psl, pfl, (pt1, pt2)⟩ ≠ lastI ⟨xb, ⟨so, sg, stg, sln, stk⟩, (s1, s2), sl, fl, (t1, t2)⟩) => show (⟨pb, ⟨po, pg, ptg, pln, ptk⟩, (p1, p2), psl, pfl, (pt1, pt2)⟩ : Ix.Sl) ≠ ⟨xb, ⟨so, sg, stg, sln, stk⟩, (s1, s2), sl, fl, (t1, t2)⟩ from fun e => h (congrArg lastI e))
              obtain ⟨ps, hps⟩ : ∃ ps : Ix.Sl, ps = ⟨pb, ⟨po, pg, ptg, pln, ptk⟩, (p1, p2), psl, pfl, (pt1, pt2)⟩ := ⟨_, rfl⟩
              obtain ⟨ss, hss⟩ : ∃ ss : Ix.Sl, ss = ⟨xb, ⟨so, sg, stg, sln, stk⟩, (s1, s2), sl, fl, (t1, t2)⟩ := ⟨_, rfl⟩
              rw [← hps, ← hss] at HQ1 HQ2 HQ4 HQ5 HQ6 HQ7 HQ8
              have HPS := Lib.hid hps
              have HSS := Lib.hid hss
              rw [← hss]
              have HFIN : Hid (pb = xb → r2 = true → r4 = true → r5 = true → pfl = fl → psl = sl → ps = ss) := Lib.hid fun e1 e2 e4 e5 e7 e9 => by
                rw [hps, hss, e1, e7, e9]
                have a2 := bdB_iff.1 (hr2.symm.trans e2)
                have a4 := adB_iff.1 (hr4.symm.trans e4)
                have a5 := adB_iff.1 (hr5.symm.trans e5)
                rw [a2, a4, a5]
              have cF := fun W (hb : Below w.heap.size w W) => lxFloor_any ob (HIX.out.below hb)
              have cL := fun W (hb : Below w.heap.size w W) => lxLast_any ob (HIX.out.below hb)
              rw [← HPQ.out, ← hps] at cF cL
              have hpf : ps.fl = pfl := by rw [hps]
              rw [hpf] at cF
              obtain ⟨l1, hl1⟩ : ∃ l, l = lastI ps := ⟨_, rfl⟩
              obtain ⟨l2, hl2⟩ : ∃ l, l = lastI ss := ⟨_, rfl⟩
              rw [← hl1] at cL
              rw [← hl2]
              rw [← hl1, ← hl2] at HQ8
              have hg2' := hg2.symm
              obtain ⟨y0, y1, y2, y3, y4, y5, y6, y7, y8, y9, y10, y11⟩ := ScBox.cells HFZ.out.1
              obtain ⟨x0, x1, x2, x3, x4⟩ := cells5 HFZ.out.2.1
              obtain ⟨a0, a1⟩ := cells2 HFZ.out.2.2.1
              obtain ⟨e0, e1⟩ := cells2 HFZ.out.2.2.2
              dsimp only at y0 y1 y2 y3 y4 y5 y6 y7 y8 y9 y10 y11
              clear hr2 hr4 hr5 hg1 hg2 hps hss hpf hl1 hl2
              go_upto_region 16 with fail
              go_cut [120] (fun s120 wx => ∃ r : Bool, s120 = .bool r ∧ Hid (Below wz.heap.size wz wx ∧ (r = true → ps ≠ ss) ∧ (r = false → pb = xb ∧ r2 = true ∧ r4 = true ∧ r5 = true ∧ pfl = fl)))
              case first =>
                as_aux_lemma =>
                  have HPS : Hid (∀ W, Below wz.heap.size wz W → W.rangeAt w.heap.size 0 cs ∧ W.cell? ⟨b7, 0, none⟩ = some (.bool xb) ∧ W.cell? ⟨b7, 1, none⟩ = some (.int .i64 so) ∧ W.cell? ⟨b7, 2, none⟩ = some (.int .i64 sg) ∧ W.cell? ⟨b7, 3, none⟩ = some (.string stg) ∧ W.cell? ⟨b7, 4, none⟩ = some (.int .i64 sln) ∧ W.cell? ⟨b7, 5, none⟩ = some (.int .i64 stk) ∧ W.cell? ⟨b7, 6, none⟩ = some (.int .i64 s1) ∧ W.cell? ⟨b7, 7, none⟩ = some (.int .i64 s2) ∧ W.cell? ⟨b7, 8, none⟩ = some (vh) ∧ W.cell? ⟨b7, 9, none⟩ = some (.int .i64 fl) ∧ W.cell? ⟨b7, 10, none⟩ = some (.int .i64 t1) ∧ W.cell? ⟨b7, 11, none⟩ = some (.int .i64 t2) ∧ W.cell? ⟨b8, 0, none⟩ = some (.int .i64 po) ∧ W.cell? ⟨b8, 1, none⟩ = some (.int .i64 pg) ∧ W.cell? ⟨b8, 2, none⟩ = some (.string ptg) ∧ W.cell? ⟨b8, 3, none⟩ = some (.int .i64 pln) ∧ W.cell? ⟨b8, 4, none⟩ = some (.int .i64 ptk) ∧ W.cell? ⟨b10, 0, none⟩ = some (.int .i64 p1) ∧ W.cell? ⟨b10, 1, none⟩ = some (.int .i64 p2) ∧ W.cell? ⟨b12, 0, none⟩ = some (.int .i64 pt1) ∧ W.cell? ⟨b12, 1, none⟩ = some (.int .i64 pt2)) := Lib.hid fun W hB => by
                    have q7 := ScBox.cells ((hB.block _ (lt_of_at HFZ.out.1)).trans HFZ.out.1)
                    have q8 := cells5 ((hB.block _ (lt_of_at HFZ.out.2.1)).trans HFZ.out.2.1)
                    have q10 := cells2 ((hB.block _ (lt_of_at HFZ.out.2.2.1)).trans HFZ.out.2.2.1)
                    have q12 := cells2 ((hB.block _ (lt_of_at HFZ.out.2.2.2)).trans HFZ.out.2.2.2)
                    obtain ⟨z0, z1, z2, z3, z4, z5, z6, z7, z8, z9, z10, z11⟩ := q7
                    obtain ⟨u0, u1, u2, u3, u4⟩ := q8
                    exact ⟨(HXZ.out.below hB).range, z0, z1, z2, z3, z4, z5, z6, z7, z8, z9, z10, z11, u0, u1, u2, u3, u4, q10.1, q10.2, q12.1, q12.2⟩
                  by_cases h1 : pb = xb
                  · have k1 : (pb != xb) = false := by simp [h1]
                    have k1x : (pb ^^ xb) = false := by simp [h1]
                    have k1e : (pb == xb) = true := by simp [h1]
                    have HE1 := Lib.hid h1
                    clear h1
                    cases r2
                    · have HE := Lib.hid (HQ2.out rfl)
                      go_quiet (fail)
                      go_wp2_with fail
                      go_meet
                      exact ⟨true, rfl, Lib.hid ⟨below_drewN (Below.refl _ _) _, fun _ => HE.out, fun h => (nomatch h)⟩⟩
                    · cases r4
                      · have HE := Lib.hid (HQ4.out rfl)
                        go_quiet (fail)
                        go_wp2_with fail
                        go_meet
                        exact ⟨true, rfl, Lib.hid ⟨below_drewN (Below.refl _ _) _, fun _ => HE.out, fun h => (nomatch h)⟩⟩
                      · cases r5
                        · have HE := Lib.hid (HQ5.out rfl)
                          go_quiet (fail)
                          go_wp2_with fail
                          go_meet
                          exact ⟨true, rfl, Lib.hid ⟨below_drewN (Below.refl _ _) _, fun _ => HE.out, fun h => (nomatch h)⟩⟩
                        · by_cases h6 : g1 = g2
                          · have k6 : (g1 != g2) = false := by simp [h6]
                            have k6x : (g1 ^^ g2) = false := by simp [h6]
                            have k6e : (g1 == g2) = true := by simp [h6]
                            clear h6
                            have HB0 := Lib.hid (Below.refl wz.heap.size wz).drew
                            have hP := HPS.out _ HB0.out
                            by_cases h7 : pfl = fl
                            · have k7 : (pfl != fl) = false := by simp [h7]
                              have HE7 := Lib.hid h7
                              have HE8 : Hid ((l1 != l2) = true → ps ≠ ss) := Lib.hid fun h => HQ8.out (by simpa using h)
                              clear h7 y0 y1 y2 y3 y4 y5 y6 y7 y8 y9 y10 y11 x0 x1 x2 x3 x4 a0 a1 e0 e1
                              refine wp_region_noPanic ?_
                              refine wp_region_held_drew (S := (fun W => W.rangeAt w.heap.size 0 cs ∧ W.cell? ⟨b7, 0, none⟩ = some (.bool xb) ∧ W.cell? ⟨b7, 1, none⟩ = some (.int .i64 so) ∧ W.cell? ⟨b7, 2, none⟩ = some (.int .i64 sg) ∧ W.cell? ⟨b7, 3, none⟩ = some (.string stg) ∧ W.cell? ⟨b7, 4, none⟩ = some (.int .i64 sln) ∧ W.cell? ⟨b7, 5, none⟩ = some (.int .i64 stk) ∧ W.cell? ⟨b7, 6, none⟩ = some (.int .i64 s1) ∧ W.cell? ⟨b7, 7, none⟩ = some (.int .i64 s2) ∧ W.cell? ⟨b7, 8, none⟩ = some (vh) ∧ W.cell? ⟨b7, 9, none⟩ = some (.int .i64 fl) ∧ W.cell? ⟨b7, 10, none⟩ = some (.int .i64 t1) ∧ W.cell? ⟨b7, 11, none⟩ = some (.int .i64 t2) ∧ W.cell? ⟨b8, 0, none⟩ = some (.int .i64 po) ∧ W.cell? ⟨b8, 1, none⟩ = some (.int .i64 pg) ∧ W.cell? ⟨b8, 2, none⟩ = some (.string ptg) ∧ W.cell? ⟨b8, 3, none⟩ = some (.int .i64 pln) ∧ W.cell? ⟨b8, 4, none⟩ = some (.int .i64 ptk) ∧ W.cell? ⟨b10, 0, none⟩ = some (.int .i64 p1) ∧ W.cell? ⟨b10, 1, none⟩ = some (.int .i64 p2) ∧ W.cell? ⟨b12, 0, none⟩ = some (.int .i64 pt1) ∧ W.cell? ⟨b12, 1, none⟩ = some (.int .i64 pt2))) (by kernel_rfl) hP (fun hHeld => ?_)
                              generalize wz.drew = wc at *
                              refine wpAnyH_take (i := 0) (v := ?_) (List.getElem?_toArray.trans rfl) (by decide +kernel) (by decide +kernel) (by decide +kernel) (fun _ _ _ h => h) (Or.inl ⟨by rfl, ?_⟩) (by assumption) ?_
                              case refine_2 => (intro w hSw; (try dsimp only at hSw); clear hSw; go_simp <;> with_reducible rfl)
                              simp only [Act.put, List.setIfInBounds_toArray, List.set_cons_zero, List.set_cons_succ]
                              refine wpAnyH_take (i := 1) (v := ?_) (List.getElem?_toArray.trans rfl) (by decide +kernel) (by decide +kernel) (by decide +kernel) (fun _ _ _ h => h) (Or.inl ⟨by rfl, ?_⟩) (by assumption) ?_
                              case refine_2 => (intro w hSw; (try dsimp only at hSw); clear hSw; go_simp <;> with_reducible rfl)
                              simp only [Act.put, List.setIfInBounds_toArray, List.set_cons_zero, List.set_cons_succ]
                              refine wpAnyH_take (i := 2) (v := ?_) (List.getElem?_toArray.trans rfl) (by decide +kernel) (by decide +kernel) (by decide +kernel) (fun _ _ _ h => h) (Or.inl ⟨by rfl, ?_⟩) (by assumption) ?_
                              case refine_2 => (intro w hSw; (try dsimp only at hSw); go_simp <;> with_reducible rfl)
                              simp only [Act.put, List.setIfInBounds_toArray, List.set_cons_zero, List.set_cons_succ]
                              refine wpAnyH_take (i := 3) (v := ?_) (List.getElem?_toArray.trans rfl) (by decide +kernel) (by decide +kernel) (by decide +kernel) (fun _ _ _ h => h) (Or.inl ⟨by rfl, ?_⟩) (by assumption) ?_
                              case refine_2 => (intro w hSw; (try dsimp only at hSw); clear hSw; go_simp <;> with_reducible rfl)
                              simp only [Act.put, List.setIfInBounds_toArray, List.set_cons_zero, List.set_cons_succ]
                              refine wpAnyH_take (i := 4) (v := ?_) (List.getElem?_toArray.trans rfl) (by decide +kernel) (by decide +kernel) (by decide +kernel) (fun _ _ _ h => h) (Or.inl ⟨by rfl, ?_⟩) (by assumption) ?_
                              case refine_2 => (intro w hSw; (try dsimp only at hSw); clear hSw; go_simp <;> with_reducible rfl)
                              simp only [Act.put, List.setIfInBounds_toArray, List.set_cons_zero, List.set_cons_succ]
                              refine wpAnyH_take (i := 5) (v := ?_) (List.getElem?_toArray.trans rfl) (by decide +kernel) (by decide +kernel) (by decide +kernel) (fun _ _ _ h => h) (Or.inl ⟨by rfl, ?_⟩) (by assumption) ?_
                              case refine_2 => (intro w hSw; (try dsimp only at hSw); go_simp <;> with_reducible rfl)
                              simp only [Act.put, List.setIfInBounds_toArray, List.set_cons_zero, List.set_cons_succ]
                              refine wpAnyH_take (i := 6) (v := ?_) (List.getElem?_toArray.trans rfl) (by decide +kernel) (by decide +kernel) (by decide +kernel) (fun _ _ _ h => h) (Or.inl ⟨by rfl, ?_⟩) (by assumption) ?_
                              case refine_2 => (intro w hSw; (try dsimp only at hSw); clear hSw; go_simp <;> with_reducible rfl)
                              simp only [Act.put, List.setIfInBounds_toArray, List.set_cons_zero, List.set_cons_succ]
                              refine wpAnyH_take (i := 7) (v := ?_) (List.getElem?_toArray.trans rfl) (by decide +kernel) (by decide +kernel) (by decide +kernel) (fun _ _ _ h => h) (Or.inl ⟨by rfl, ?_⟩) (by assumption) ?_
                              case refine_2 => (intro w hSw; (try dsimp only at hSw); go_simp <;> with_reducible rfl)
                              simp only [Act.put, List.setIfInBounds_toArray, List.set_cons_zero, List.set_cons_succ]
                              refine wpAnyH_take (i := 8) (v := ?_) (List.getElem?_toArray.trans rfl) (by decide +kernel) (by decide +kernel) (by decide +kernel) (fun _ _ _ h => h) (Or.inl ⟨by rfl, ?_⟩) (by assumption) ?_
                              case refine_2 => (intro w hSw; (try dsimp only at hSw); clear hSw; go_simp <;> with_reducible rfl)
                              simp only [Act.put, List.setIfInBounds_toArray, List.set_cons_zero, List.set_cons_succ]
                              refine wpAnyH_take (i := 9) (v := ?_) (List.getElem?_toArray.trans rfl) (by decide +kernel) (by decide +kernel) (by decide +kernel) (fun _ _ _ h => h) (Or.inl ⟨by rfl, ?_⟩) (by assumption) ?_
                              case refine_2 => (intro w hSw; (try dsimp only at hSw); clear hSw; go_simp <;> with_reducible rfl)
                              simp only [Act.put, List.setIfInBounds_toArray, List.set_cons_zero, List.set_cons_succ]
                              refine wpAnyH_take (i := 10) (v := ?_) (List.getElem?_toArray.trans rfl) (by decide +kernel) (by decide +kernel) (by decide +kernel) (fun _ _ _ h => h) (Or.inl ⟨by rfl, ?_⟩) (by assumption) ?_
                              case refine_2 => (intro w hSw; (try dsimp only at hSw); clear hSw; go_simp <;> with_reducible rfl)
                              simp only [Act.put, List.setIfInBounds_toArray, List.set_cons_zero, List.set_cons_succ]
                              refine wpAnyH_take (i := 11) (v := ?_) (List.getElem?_toArray.trans rfl) (by decide +kernel) (by decide +kernel) (by decide +kernel) (fun _ _ _ h => h) (Or.inl ⟨by rfl, ?_⟩) (by assumption) ?_
                              case refine_2 => (intro w hSw; (try dsimp only at hSw); clear hSw; go_simp <;> with_reducible rfl)
                              simp only [Act.put, List.setIfInBounds_toArray, List.set_cons_zero, List.set_cons_succ]
                              refine wpAnyH_take (i := 12) (v := ?_) (List.getElem?_toArray.trans rfl) (by decide +kernel) (by decide +kernel) (by decide +kernel) (fun _ _ _ h => h) (Or.inl ⟨by rfl, ?_⟩) (by assumption) ?_
                              case refine_2 => (intro w hSw; (try dsimp only at hSw); clear hSw; go_simp <;> with_reducible rfl)
                              simp only [Act.put, List.setIfInBounds_toArray, List.set_cons_zero, List.set_cons_succ]
                              refine wpAnyH_take (i := 13) (v := ?_) (List.getElem?_toArray.trans rfl) (by decide +kernel) (by decide +kernel) (by decide +kernel) (fun _ _ _ h => h) (Or.inl ⟨by rfl, ?_⟩) (by assumption) ?_
                              case refine_2 => (intro w hSw; (try dsimp only at hSw); go_simp <;> with_reducible rfl)
                              simp only [Act.put, List.setIfInBounds_toArray, List.set_cons_zero, List.set_cons_succ]
                              refine wpAnyH_take (i := 14) (v := ?_) (List.getElem?_toArray.trans rfl) (by decide +kernel) (by decide +kernel) (by decide +kernel) (fun _ _ _ h => h) (Or.inl ⟨by rfl, ?_⟩) (by assumption) ?_
                              case refine_2 => (intro w hSw; (try dsimp only at hSw); clear hSw; go_simp <;> with_reducible rfl)
                              simp only [Act.put, List.setIfInBounds_toArray, List.set_cons_zero, List.set_cons_succ]
                              refine wpAnyH_take (i := 15) (v := ?_) (List.getElem?_toArray.trans rfl) (by decide +kernel) (by decide +kernel) (by decide +kernel) (fun _ _ _ h => h) (Or.inl ⟨by rfl, ?_⟩) (by assumption) ?_
                              case refine_2 => (intro w hSw; (try dsimp only at hSw); clear hSw; go_simp <;> with_reducible rfl)
                              simp only [Act.put, List.setIfInBounds_toArray, List.set_cons_zero, List.set_cons_succ]
                              refine wpAnyH_take (i := 16) (v := ?_) (List.getElem?_toArray.trans rfl) (by decide +kernel) (by decide +kernel) (by decide +kernel) (fun _ _ _ h => h) (Or.inl ⟨by rfl, ?_⟩) (by assumption) ?_
                              case refine_2 => (intro w hSw; (try dsimp only at hSw); clear hSw; go_simp <;> with_reducible rfl)
                              simp only [Act.put, List.setIfInBounds_toArray, List.set_cons_zero, List.set_cons_succ]
                              refine wpAnyH_take (i := 17) (v := ?_) (List.getElem?_toArray.trans rfl) (by decide +kernel) (by decide +kernel) (by decide +kernel) (fun _ _ _ h => h) (Or.inl ⟨by rfl, ?_⟩) (by assumption) ?_
                              case refine_2 => (intro w hSw; (try dsimp only at hSw); go_simp <;> with_reducible rfl)
                              simp only [Act.put, List.setIfInBounds_toArray, List.set_cons_zero, List.set_cons_succ]
                              refine wpAnyH_take (i := 18) (v := ?_) (List.getElem?_toArray.trans rfl) (by decide +kernel) (by decide +kernel) (by decide +kernel) (fun _ _ _ h => h) (Or.inl ⟨by rfl, ?_⟩) (by assumption) ?_
                              case refine_2 => (intro w hSw; (try dsimp only at hSw); clear hSw; go_simp <;> with_reducible rfl)
                              simp only [Act.put, List.setIfInBounds_toArray, List.set_cons_zero, List.set_cons_succ]
                              refine wpAnyH_take (i := 19) (v := ?_) (List.getElem?_toArray.trans rfl) (by decide +kernel) (by decide +kernel) (by decide +kernel) (fun _ _ _ h => h) (Or.inl ⟨by rfl, ?_⟩) (by assumption) ?_
                              case refine_2 => (intro w hSw; (try dsimp only at hSw); go_simp <;> with_reducible rfl)
                              simp only [Act.put, List.setIfInBounds_toArray, List.set_cons_zero, List.set_cons_succ]
                              refine wpAnyH_take (i := 20) (v := ?_) (List.getElem?_toArray.trans rfl) (by decide +kernel) (by decide +kernel) (by decide +kernel) (fun _ _ _ h => h) (Or.inl ⟨by rfl, ?_⟩) (by assumption) ?_
                              case refine_2 => (intro w hSw; (try dsimp only at hSw); clear hSw; go_simp <;> with_reducible rfl)
                              simp only [Act.put, List.setIfInBounds_toArray, List.set_cons_zero, List.set_cons_succ]
                              refine wpAnyH_take (i := 21) (v := ?_) (List.getElem?_toArray.trans rfl) (by decide +kernel) (by decide +kernel) (by decide +kernel) (fun _ _ _ h => h) (Or.inl ⟨by rfl, ?_⟩) (by assumption) ?_
                              case refine_2 => (intro w hSw; (try dsimp only at hSw); clear hSw; go_simp <;> with_reducible rfl)
                              simp only [Act.put, List.setIfInBounds_toArray, List.set_cons_zero, List.set_cons_succ]
                              refine wpAnyH_take (i := 22) (v := ?_) (List.getElem?_toArray.trans rfl) (by decide +kernel) (by decide +kernel) (by decide +kernel) (fun _ _ _ h => h) (Or.inl ⟨by rfl, ?_⟩) (by assumption) ?_
                              case refine_2 => (intro w hSw; (try dsimp only at hSw); clear hSw; go_simp <;> with_reducible rfl)
                              simp only [Act.put, List.setIfInBounds_toArray, List.set_cons_zero, List.set_cons_succ]
                              refine wpAnyH_take (i := 23) (v := ?_) (List.getElem?_toArray.trans rfl) (by decide +kernel) (by decide +kernel) (by decide +kernel) (fun _ _ _ h => h) (Or.inl ⟨by rfl, ?_⟩) (by assumption) ?_
                              case refine_2 => (intro w hSw; (try dsimp only at hSw); go_simp <;> with_reducible rfl)
                              simp only [Act.put, List.setIfInBounds_toArray, List.set_cons_zero, List.set_cons_succ]
                              refine wpAnyH_take (i := 24) (v := ?_) (List.getElem?_toArray.trans rfl) (by decide +kernel) (by decide +kernel) (by decide +kernel) (fun _ _ _ h => h) (Or.inl ⟨by rfl, ?_⟩) (by assumption) ?_
                              case refine_2 => (intro w hSw; (try dsimp only at hSw); clear hSw; go_simp <;> with_reducible rfl)
                              simp only [Act.put, List.setIfInBounds_toArray, List.set_cons_zero, List.set_cons_succ]
                              refine wpAnyH_take (i := 25) (v := ?_) (List.getElem?_toArray.trans rfl) (by decide +kernel) (by decide +kernel) (by decide +kernel) (fun _ _ _ h => h) (Or.inl ⟨by rfl, ?_⟩) (by assumption) ?_
                              case refine_2 => (intro w hSw; (try dsimp only at hSw); go_simp <;> with_reducible rfl)
                              simp only [Act.put, List.setIfInBounds_toArray, List.set_cons_zero, List.set_cons_succ]
                              refine wpAnyH_take (i := 26) (v := ?_) (List.getElem?_toArray.trans rfl) (by decide +kernel) (by decide +kernel) (by decide +kernel) (fun _ _ _ h => h) (Or.inl ⟨by rfl, ?_⟩) (by assumption) ?_
                              case refine_2 => (intro w hSw; (try dsimp only at hSw); clear hSw; go_simp <;> with_reducible rfl)
                              simp only [Act.put, List.setIfInBounds_toArray, List.set_cons_zero, List.set_cons_succ]
                              refine wpAnyH_take (i := 27) (v := ?_) (List.getElem?_toArray.trans rfl) (by decide +kernel) (by decide +kernel) (by decide +kernel) (fun _ _ _ h => h) (Or.inl ⟨by rfl, ?_⟩) (by assumption) ?_
                              case refine_2 => (intro w hSw; (try dsimp only at hSw); clear hSw; go_simp <;> with_reducible rfl)
                              simp only [Act.put, List.setIfInBounds_toArray, List.set_cons_zero, List.set_cons_succ]
                              refine wpAnyH_take (i := 28) (v := ?_) (List.getElem?_toArray.trans rfl) (by decide +kernel) (by decide +kernel) (by decide +kernel) (fun _ _ _ h => h) (Or.inl ⟨by rfl, ?_⟩) (by assumption) ?_
                              case refine_2 => (intro w hSw; (try dsimp only at hSw); clear hSw; go_simp <;> with_reducible rfl)
                              simp only [Act.put, List.setIfInBounds_toArray, List.set_cons_zero, List.set_cons_succ]
                              refine wpAnyH_take (i := 29) (v := ?_) (List.getElem?_toArray.trans rfl) (by decide +kernel) (by decide +kernel) (by decide +kernel) (fun _ _ _ h => h) (Or.inl ⟨by rfl, ?_⟩) (by assumption) ?_
                              case refine_2 => (intro w hSw; (try dsimp only at hSw); clear hSw; go_simp <;> with_reducible rfl)
                              simp only [Act.put, List.setIfInBounds_toArray, List.set_cons_zero, List.set_cons_succ]
                              refine wpAnyH_take (i := 30) (v := ?_) (List.getElem?_toArray.trans rfl) (by decide +kernel) (by decide +kernel) (by decide +kernel) (fun _ _ _ h => h) (Or.inl ⟨by rfl, ?_⟩) (by assumption) ?_
                              case refine_2 => (intro w hSw; (try dsimp only at hSw); clear hSw; go_simp <;> with_reducible rfl)
                              simp only [Act.put, List.setIfInBounds_toArray, List.set_cons_zero, List.set_cons_succ]
                              refine wpAnyH_take (i := 31) (v := ?_) (List.getElem?_toArray.trans rfl) (by decide +kernel) (by decide +kernel) (by decide +kernel) (fun _ _ _ h => h) (Or.inl ⟨by rfl, ?_⟩) (by assumption) ?_
                              case refine_2 => (intro w hSw; (try dsimp only at hSw); go_simp <;> with_reducible rfl)
                              simp only [Act.put, List.setIfInBounds_toArray, List.set_cons_zero, List.set_cons_succ]
                              refine wpAnyH_take (i := 32) (v := ?_) (List.getElem?_toArray.trans rfl) (by decide +kernel) (by decide +kernel) (by decide +kernel) (fun _ _ _ h => h) (Or.inl ⟨by rfl, ?_⟩) (by assumption) ?_
                              case refine_2 => (intro w hSw; (try dsimp only at hSw); clear hSw; go_simp <;> with_reducible rfl)
                              simp only [Act.put, List.setIfInBounds_toArray, List.set_cons_zero, List.set_cons_succ]
                              refine wpAnyH_take (i := 33) (v := ?_) (List.getElem?_toArray.trans rfl) (by decide +kernel) (by decide +kernel) (by decide +kernel) (fun _ _ _ h => h) (Or.inl ⟨by rfl, ?_⟩) (by assumption) ?_
                              case refine_2 => (intro w hSw; (try dsimp only at hSw); clear hSw; go_simp <;> with_reducible rfl)
                              simp only [Act.put, List.setIfInBounds_toArray, List.set_cons_zero, List.set_cons_succ]
                              refine wpAnyH_take (i := 34) (v := ?_) (List.getElem?_toArray.trans rfl) (by decide +kernel) (by decide +kernel) (by decide +kernel) (fun _ _ _ h => h) (Or.inl ⟨by rfl, ?_⟩) (by assumption) ?_
                              case refine_2 => (intro w hSw; (try dsimp only at hSw); clear hSw; go_simp <;> with_reducible rfl)
                              simp only [Act.put, List.setIfInBounds_toArray, List.set_cons_zero, List.set_cons_succ]
                              refine wpAnyH_take (i := 35) (v := ?_) (List.getElem?_toArray.trans rfl) (by decide +kernel) (by decide +kernel) (by decide +kernel) (fun _ _ _ h => h) (Or.inl ⟨by rfl, ?_⟩) (by assumption) ?_
                              case refine_2 => (intro w hSw; (try dsimp only at hSw); clear hSw; go_simp <;> with_reducible rfl)
                              simp only [Act.put, List.setIfInBounds_toArray, List.set_cons_zero, List.set_cons_succ]
                              refine wpAnyH_take (i := 36) (v := .agg cs.toArray) (List.getElem?_toArray.trans rfl) (by decide +kernel) (by decide +kernel) (by decide +kernel) (fun _ _ _ h => h) ?_ (by assumption) ?_
                              · exact yieldsIf_load_mid (by rfl) 35 _ (by rfl) w.heap.size 0 (by rfl) cs _ (fun _ h => h.1) Tryd.underlying35 (by rfl) HSZ.out
                              simp only [Act.put, List.setIfInBounds_toArray, List.set_cons_zero, List.set_cons_succ]
                              refine wpAnyH_take (i := 37) (v := ?_) (List.getElem?_toArray.trans rfl) (by decide +kernel) (by decide +kernel) (by decide +kernel) (fun _ _ _ h => h) (Or.inl ⟨by rfl, ?_⟩) (by assumption) ?_
                              case refine_2 => (intro w hSw; (try dsimp only at hSw); clear hSw; go_simp <;> with_reducible rfl)
                              simp only [Act.put, List.setIfInBounds_toArray, List.set_cons_zero, List.set_cons_succ]
                              refine wpAnyH_take (i := 39) (v := ?_) (List.getElem?_toArray.trans rfl) (by decide +kernel) (by decide +kernel) (by decide +kernel) (fun _ _ _ h => h) (Or.inl ⟨by rfl, ?_⟩) (by assumption) ?_
                              case refine_2 => (intro w hSw; (try dsimp only at hSw); clear hSw; go_simp <;> with_reducible rfl)
                              simp only [Act.put, List.setIfInBounds_toArray, List.set_cons_zero, List.set_cons_succ]
                              refine wpAnyH_take (i := 40) (v := ?_) (List.getElem?_toArray.trans rfl) (by decide +kernel) (by decide +kernel) (by decide +kernel) (fun _ _ _ h => h) (Or.inl ⟨by rfl, ?_⟩) (by assumption) ?_
                              case refine_2 => (intro w hSw; (try dsimp only at hSw); go_simp <;> with_reducible rfl)
                              simp only [Act.put, List.setIfInBounds_toArray, List.set_cons_zero, List.set_cons_succ]
                              refine wpAnyH_ready (rs := [38]) (by decide +kernel) (by simp) ?_
                              refine AllReadyH.cons (List.getElem?_toArray.trans rfl) (fun K hK => ?_) AllReadyH.nil
                              go_simp
                              go_at_call 17; (with_reducible refine (cF _ (HBZ.out.trans (HB0.out.mono HBZ.out.size))).mono ?_); rintro e wc ⟨rfl, hbn⟩; replace HB0 := Lib.hid (HB0.out.trans (hbn.mono HB0.out.size)); have hP := HPS.out _ HB0.out; clear hbn
                              refine hK.out _ _ hP (fun hHeld => ?_)
                              clear hK K
                              refine wpAnyH_take (i := 41) (v := ?_) (List.getElem?_toArray.trans rfl) (by decide +kernel) (by decide +kernel) (by decide +kernel) (fun _ _ _ h => h) (Or.inl ⟨by rfl, ?_⟩) (by assumption) ?_
                              case refine_2 => (intro w hSw; (try dsimp only at hSw); clear hSw; go_simp <;> with_reducible rfl)
                              simp only [Act.put, List.setIfInBounds_toArray, List.set_cons_zero, List.set_cons_succ]
                              refine wpAnyH_take (i := 42) (v := ?_) (List.getElem?_toArray.trans rfl) (by decide +kernel) (by decide +kernel) (by decide +kernel) (fun _ _ _ h => h) (Or.inl ⟨by rfl, ?_⟩) (by assumption) ?_
                              case refine_2 => (intro w hSw; (try dsimp only at hSw); clear hSw; go_simp <;> with_reducible rfl)
                              simp only [Act.put, List.setIfInBounds_toArray, List.set_cons_zero, List.set_cons_succ]
                              refine wpAnyH_take (i := 43) (v := ?_) (List.getElem?_toArray.trans rfl) (by decide +kernel) (by decide +kernel) (by decide +kernel) (fun _ _ _ h => h) (Or.inl ⟨by rfl, ?_⟩) (by assumption) ?_
                              case refine_2 => (intro w hSw; (try dsimp only at hSw); clear hSw; go_simp <;> with_reducible rfl)
                              simp only [Act.put, List.setIfInBounds_toArray, List.set_cons_zero, List.set_cons_succ]
                              refine wpAnyH_take (i := 44) (v := .agg cs.toArray) (List.getElem?_toArray.trans rfl) (by decide +kernel) (by decide +kernel) (by decide +kernel) (fun _ _ _ h => h) ?_ (by assumption) ?_
                              · exact yieldsIf_load_mid (by rfl) 35 _ (by rfl) w.heap.size 0 (by rfl) cs _ (fun _ h => h.1) Tryd.underlying35 (by rfl) HSZ.out
                              simp only [Act.put, List.setIfInBounds_toArray, List.set_cons_zero, List.set_cons_succ]
                              refine wpAnyH_take (i := 45) (v := ?_) (List.getElem?_toArray.trans rfl) (by decide +kernel) (by decide +kernel) (by decide +kernel) (fun _ _ _ h => h) (Or.inl ⟨by rfl, ?_⟩) (by assumption) ?_
                              case refine_2 => (intro w hSw; (try dsimp only at hSw); clear hSw; go_simp <;> with_reducible rfl)
                              simp only [Act.put, List.setIfInBounds_toArray, List.set_cons_zero, List.set_cons_succ]
                              refine wpAnyH_take (i := 47) (v := ?_) (List.getElem?_toArray.trans rfl) (by decide +kernel) (by decide +kernel) (by decide +kernel) (fun _ _ _ h => h) (Or.inl ⟨by rfl, ?_⟩) (by assumption) ?_
                              case refine_2 => (intro w hSw; (try dsimp only at hSw); clear hSw; go_simp <;> with_reducible rfl)
                              simp only [Act.put, List.setIfInBounds_toArray, List.set_cons_zero, List.set_cons_succ]
                              refine wpAnyH_ready (rs := [46]) (by decide +kernel) (by simp) ?_
                              refine AllReadyH.cons (List.getElem?_toArray.trans rfl) (fun K hK => ?_) AllReadyH.nil
                              go_simp
                              go_at_call 24; (with_reducible refine (cL _ (HBZ.out.trans (HB0.out.mono HBZ.out.size))).mono ?_); rintro e wc ⟨rfl, hbn⟩; replace HB0 := Lib.hid (HB0.out.trans (hbn.mono HB0.out.size)); have hP := HPS.out _ HB0.out; clear hbn
                              refine hK.out _ _ hP (fun hHeld => ?_)
                              clear hK K
                              refine wpAnyH_take (i := 48) (v := ?_) (List.getElem?_toArray.trans rfl) (by decide +kernel) (by decide +kernel) (by decide +kernel) (fun _ _ _ h => h) (Or.inl ⟨by rfl, ?_⟩) (by assumption) ?_
                              case refine_2 => (intro w hSw; (try dsimp only at hSw); clear hSw; go_simp <;> with_reducible rfl)
                              simp only [Act.put, List.setIfInBounds_toArray, List.set_cons_zero, List.set_cons_succ]
                              refine wpAnyH_take (i := 49) (v := ?_) (List.getElem?_toArray.trans rfl) (by decide +kernel) (by decide +kernel) (by decide +kernel) (fun _ _ _ h => h) (Or.inl ⟨by rfl, ?_⟩) (by assumption) ?_
                              case refine_2 => (intro w hSw; (try dsimp only at hSw); clear hSw; go_simp <;> with_reducible rfl)
                              simp only [Act.put, List.setIfInBounds_toArray, List.set_cons_zero, List.set_cons_succ]
                              refine wpAnyH_done (by decide +kernel) ?_ _
                              refine NoPanic.normal ?_
                              go_wp2_with fail
                              go_meet
                              exact ⟨l1 != l2, rfl, Lib.hid ⟨HB0.out, HE8.out, fun _ => ⟨HE1.out, trivial, trivial, trivial, HE7.out⟩⟩⟩
                            · have k7 : (pfl != fl) = true := by simp [h7]
                              have HE := Lib.hid (HQ7.out h7)
                              clear h7 y0 y1 y2 y3 y4 y5 y6 y7 y8 y9 y10 y11 x0 x1 x2 x3 x4 a0 a1 e0 e1
                              refine wp_region_noPanic ?_
                              refine wp_region_held_drew (S := (fun W => W.rangeAt w.heap.size 0 cs ∧ W.cell? ⟨b7, 0, none⟩ = some (.bool xb) ∧ W.cell? ⟨b7, 1, none⟩ = some (.int .i64 so) ∧ W.cell? ⟨b7, 2, none⟩ = some (.int .i64 sg) ∧ W.cell? ⟨b7, 3, none⟩ = some (.string stg) ∧ W.cell? ⟨b7, 4, none⟩ = some (.int .i64 sln) ∧ W.cell? ⟨b7, 5, none⟩ = some (.int .i64 stk) ∧ W.cell? ⟨b7, 6, none⟩ = some (.int .i64 s1) ∧ W.cell? ⟨b7, 7, none⟩ = some (.int .i64 s2) ∧ W.cell? ⟨b7, 8, none⟩ = some (vh) ∧ W.cell? ⟨b7, 9, none⟩ = some (.int .i64 fl) ∧ W.cell? ⟨b7, 10, none⟩ = some (.int .i64 t1) ∧ W.cell? ⟨b7, 11, none⟩ = some (.int .i64 t2) ∧ W.cell? ⟨b8, 0, none⟩ = some (.int .i64 po) ∧ W.cell? ⟨b8, 1, none⟩ = some (.int .i64 pg) ∧ W.cell? ⟨b8, 2, none⟩ = some (.string ptg) ∧ W.cell? ⟨b8, 3, none⟩ = some (.int .i64 pln) ∧ W.cell? ⟨b8, 4, none⟩ = some (.int .i64 ptk) ∧ W.cell? ⟨b10, 0, none⟩ = some (.int .i64 p1) ∧ W.cell? ⟨b10, 1, none⟩ = some (.int .i64 p2) ∧ W.cell? ⟨b12, 0, none⟩ = some (.int .i64 pt1) ∧ W.cell? ⟨b12, 1, none⟩ = some (.int .i64 pt2))) (by kernel_rfl) hP (fun hHeld => ?_)
                              generalize wz.drew = wc at *
                              refine wpAnyH_take (i := 0) (v := ?_) (List.getElem?_toArray.trans rfl) (by decide +kernel) (by decide +kernel) (by decide +kernel) (fun _ _ _ h => h) (Or.inl ⟨by rfl, ?_⟩) (by assumption) ?_
                              case refine_2 => (intro w hSw; (try dsimp only at hSw); clear hSw; go_simp <;> with_reducible rfl)
                              simp only [Act.put, List.setIfInBounds_toArray, List.set_cons_zero, List.set_cons_succ]
                              refine wpAnyH_take (i := 1) (v := ?_) (List.getElem?_toArray.trans rfl) (by decide +kernel) (by decide +kernel) (by decide +kernel) (fun _ _ _ h => h) (Or.inl ⟨by rfl, ?_⟩) (by assumption) ?_
                              case refine_2 => (intro w hSw; (try dsimp only at hSw); clear hSw; go_simp <;> with_reducible rfl)
                              simp only [Act.put, List.setIfInBounds_toArray, List.set_cons_zero, List.set_cons_succ]
                              refine wpAnyH_take (i := 2) (v := ?_) (List.getElem?_toArray.trans rfl) (by decide +kernel) (by decide +kernel) (by decide +kernel) (fun _ _ _ h => h) (Or.inl ⟨by rfl, ?_⟩) (by assumption) ?_
                              case refine_2 => (intro w hSw; (try dsimp only at hSw); go_simp <;> with_reducible rfl)
                              simp only [Act.put, List.setIfInBounds_toArray, List.set_cons_zero, List.set_cons_succ]
                              refine wpAnyH_take (i := 3) (v := ?_) (List.getElem?_toArray.trans rfl) (by decide +kernel) (by decide +kernel) (by decide +kernel) (fun _ _ _ h => h) (Or.inl ⟨by rfl, ?_⟩) (by assumption) ?_
                              case refine_2 => (intro w hSw; (try dsimp only at hSw); clear hSw; go_simp <;> with_reducible rfl)
                              simp only [Act.put, List.setIfInBounds_toArray, List.set_cons_zero, List.set_cons_succ]
                              refine wpAnyH_take (i := 4) (v := ?_) (List.getElem?_toArray.trans rfl) (by decide +kernel) (by decide +kernel) (by decide +kernel) (fun _ _ _ h => h) (Or.inl ⟨by rfl, ?_⟩) (by assumption) ?_
                              case refine_2 => (intro w hSw; (try dsimp only at hSw); clear hSw; go_simp <;> with_reducible rfl)
                              simp only [Act.put, List.setIfInBounds_toArray, List.set_cons_zero, List.set_cons_succ]
                              refine wpAnyH_take (i := 5) (v := ?_) (List.getElem?_toArray.trans rfl) (by decide +kernel) (by decide +kernel) (by decide +kernel) (fun _ _ _ h => h) (Or.inl ⟨by rfl, ?_⟩) (by assumption) ?_
                              case refine_2 => (intro w hSw; (try dsimp only at hSw); go_simp <;> with_reducible rfl)
                              simp only [Act.put, List.setIfInBounds_toArray, List.set_cons_zero, List.set_cons_succ]
                              refine wpAnyH_take (i := 6) (v := ?_) (List.getElem?_toArray.trans rfl) (by decide +kernel) (by decide +kernel) (by decide +kernel) (fun _ _ _ h => h) (Or.inl ⟨by rfl, ?_⟩) (by assumption) ?_
                              case refine_2 => (intro w hSw; (try dsimp only at hSw); clear hSw; go_simp <;> with_reducible rfl)
                              simp only [Act.put, List.setIfInBounds_toArray, List.set_cons_zero, List.set_cons_succ]
                              refine wpAnyH_take (i := 7) (v := ?_) (List.getElem?_toArray.trans rfl) (by decide +kernel) (by decide +kernel) (by decide +kernel) (fun _ _ _ h => h) (Or.inl ⟨by rfl, ?_⟩) (by assumption) ?_
                              case refine_2 => (intro w hSw; (try dsimp only at hSw); go_simp <;> with_reducible rfl)
                              simp only [Act.put, List.setIfInBounds_toArray, List.set_cons_zero, List.set_cons_succ]
                              refine wpAnyH_take (i := 8) (v := ?_) (List.getElem?_toArray.trans rfl) (by decide +kernel) (by decide +kernel) (by decide +kernel) (fun _ _ _ h => h) (Or.inl ⟨by rfl, ?_⟩) (by assumption) ?_
                              case refine_2 => (intro w hSw; (try dsimp only at hSw); clear hSw; go_simp <;> with_reducible rfl)
                              simp only [Act.put, List.setIfInBounds_toArray, List.set_cons_zero, List.set_cons_succ]
                              refine wpAnyH_take (i := 9) (v := ?_) (List.getElem?_toArray.trans rfl) (by decide +kernel) (by decide +kernel) (by decide +kernel) (fun _ _ _ h => h) (Or.inl ⟨by rfl, ?_⟩) (by assumption) ?_
                              case refine_2 => (intro w hSw; (try dsimp only at hSw); clear hSw; go_simp <;> with_reducible rfl)
                              simp only [Act.put, List.setIfInBounds_toArray, List.set_cons_zero, List.set_cons_succ]
                              refine wpAnyH_take (i := 10) (v := ?_) (List.getElem?_toArray.trans rfl) (by decide +kernel) (by decide +kernel) (by decide +kernel) (fun _ _ _ h => h) (Or.inl ⟨by rfl, ?_⟩) (by assumption) ?_
                              case refine_2 => (intro w hSw; (try dsimp only at hSw); clear hSw; go_simp <;> with_reducible rfl)
                              simp only [Act.put, List.setIfInBounds_toArray, List.set_cons_zero, List.set_cons_succ]
                              refine wpAnyH_take (i := 11) (v := ?_) (List.getElem?_toArray.trans rfl) (by decide +kernel) (by decide +kernel) (by decide +kernel) (fun _ _ _ h => h) (Or.inl ⟨by rfl, ?_⟩) (by assumption) ?_
                              case refine_2 => (intro w hSw; (try dsimp only at hSw); clear hSw; go_simp <;> with_reducible rfl)
                              simp only [Act.put, List.setIfInBounds_toArray, List.set_cons_zero, List.set_cons_succ]
                              refine wpAnyH_take (i := 12) (v := ?_) (List.getElem?_toArray.trans rfl) (by decide +kernel) (by decide +kernel) (by decide +kernel) (fun _ _ _ h => h) (Or.inl ⟨by rfl, ?_⟩) (by assumption) ?_
                              case refine_2 => (intro w hSw; (try dsimp only at hSw); clear hSw; go_simp <;> with_reducible rfl)
                              simp only [Act.put, List.setIfInBounds_toArray, List.set_cons_zero, List.set_cons_succ]
                              refine wpAnyH_take (i := 13) (v := ?_) (List.getElem?_toArray.trans rfl) (by decide +kernel) (by decide +kernel) (by decide +kernel) (fun _ _ _ h => h) (Or.inl ⟨by rfl, ?_⟩) (by assumption) ?_
                              case refine_2 => (intro w hSw; (try dsimp only at hSw); go_simp <;> with_reducible rfl)
                              simp only [Act.put, List.setIfInBounds_toArray, List.set_cons_zero, List.set_cons_succ]
                              refine wpAnyH_take (i := 14) (v := ?_) (List.getElem?_toArray.trans rfl) (by decide +kernel) (by decide +kernel) (by decide +kernel) (fun _ _ _ h => h) (Or.inl ⟨by rfl, ?_⟩) (by assumption) ?_
                              case refine_2 => (intro w hSw; (try dsimp only at hSw); clear hSw; go_simp <;> with_reducible rfl)
                              simp only [Act.put, List.setIfInBounds_toArray, List.set_cons_zero, List.set_cons_succ]
                              refine wpAnyH_take (i := 15) (v := ?_) (List.getElem?_toArray.trans rfl) (by decide +kernel) (by decide +kernel) (by decide +kernel) (fun _ _ _ h => h) (Or.inl ⟨by rfl, ?_⟩) (by assumption) ?_
                              case refine_2 => (intro w hSw; (try dsimp only at hSw); clear hSw; go_simp <;> with_reducible rfl)
                              simp only [Act.put, List.setIfInBounds_toArray, List.set_cons_zero, List.set_cons_succ]
                              refine wpAnyH_take (i := 16) (v := ?_) (List.getElem?_toArray.trans rfl) (by decide +kernel) (by decide +kernel) (by decide +kernel) (fun _ _ _ h => h) (Or.inl ⟨by rfl, ?_⟩) (by assumption) ?_
                              case refine_2 => (intro w hSw; (try dsimp only at hSw); clear hSw; go_simp <;> with_reducible rfl)
                              simp only [Act.put, List.setIfInBounds_toArray, List.set_cons_zero, List.set_cons_succ]
                              refine wpAnyH_take (i := 17) (v := ?_) (List.getElem?_toArray.trans rfl) (by decide +kernel) (by decide +kernel) (by decide +kernel) (fun _ _ _ h => h) (Or.inl ⟨by rfl, ?_⟩) (by assumption) ?_
                              case refine_2 => (intro w hSw; (try dsimp only at hSw); go_simp <;> with_reducible rfl)
                              simp only [Act.put, List.setIfInBounds_toArray, List.set_cons_zero, List.set_cons_succ]
                              refine wpAnyH_take (i := 18) (v := ?_) (List.getElem?_toArray.trans rfl) (by decide +kernel) (by decide +kernel) (by decide +kernel) (fun _ _ _ h => h) (Or.inl ⟨by rfl, ?_⟩) (by assumption) ?_
                              case refine_2 => (intro w hSw; (try dsimp only at hSw); clear hSw; go_simp <;> with_reducible rfl)
                              simp only [Act.put, List.setIfInBounds_toArray, List.set_cons_zero, List.set_cons_succ]
                              refine wpAnyH_take (i := 19) (v := ?_) (List.getElem?_toArray.trans rfl) (by decide +kernel) (by decide +kernel) (by decide +kernel) (fun _ _ _ h => h) (Or.inl ⟨by rfl, ?_⟩) (by assumption) ?_
                              case refine_2 => (intro w hSw; (try dsimp only at hSw); go_simp <;> with_reducible rfl)
                              simp only [Act.put, List.setIfInBounds_toArray, List.set_cons_zero, List.set_cons_succ]
                              refine wpAnyH_take (i := 20) (v := ?_) (List.getElem?_toArray.trans rfl) (by decide +kernel) (by decide +kernel) (by decide +kernel) (fun _ _ _ h => h) (Or.inl ⟨by rfl, ?_⟩) (by assumption) ?_
                              case refine_2 => (intro w hSw; (try dsimp only at hSw); clear hSw; go_simp <;> with_reducible rfl)
                              simp only [Act.put, List.setIfInBounds_toArray, List.set_cons_zero, List.set_cons_succ]
                              refine wpAnyH_take (i := 21) (v := ?_) (List.getElem?_toArray.trans rfl) (by decide +kernel) (by decide +kernel) (by decide +kernel) (fun _ _ _ h => h) (Or.inl ⟨by rfl, ?_⟩) (by assumption) ?_
                              case refine_2 => (intro w hSw; (try dsimp only at hSw); clear hSw; go_simp <;> with_reducible rfl)
                              simp only [Act.put, List.setIfInBounds_toArray, List.set_cons_zero, List.set_cons_succ]
                              refine wpAnyH_take (i := 22) (v := ?_) (List.getElem?_toArray.trans rfl) (by decide +kernel) (by decide +kernel) (by decide +kernel) (fun _ _ _ h => h) (Or.inl ⟨by rfl, ?_⟩) (by assumption) ?_
                              case refine_2 => (intro w hSw; (try dsimp only at hSw); clear hSw; go_simp <;> with_reducible rfl)
                              simp only [Act.put, List.setIfInBounds_toArray, List.set_cons_zero, List.set_cons_succ]
                              refine wpAnyH_take (i := 23) (v := ?_) (List.getElem?_toArray.trans rfl) (by decide +kernel) (by decide +kernel) (by decide +kernel) (fun _ _ _ h => h) (Or.inl ⟨by rfl, ?_⟩) (by assumption) ?_
                              case refine_2 => (intro w hSw; (try dsimp only at hSw); go_simp <;> with_reducible rfl)
                              simp only [Act.put, List.setIfInBounds_toArray, List.set_cons_zero, List.set_cons_succ]
                              refine wpAnyH_take (i := 24) (v := ?_) (List.getElem?_toArray.trans rfl) (by decide +kernel) (by decide +kernel) (by decide +kernel) (fun _ _ _ h => h) (Or.inl ⟨by rfl, ?_⟩) (by assumption) ?_
                              case refine_2 => (intro w hSw; (try dsimp only at hSw); clear hSw; go_simp <;> with_reducible rfl)
                              simp only [Act.put, List.setIfInBounds_toArray, List.set_cons_zero, List.set_cons_succ]
                              refine wpAnyH_take (i := 25) (v := ?_) (List.getElem?_toArray.trans rfl) (by decide +kernel) (by decide +kernel) (by decide +kernel) (fun _ _ _ h => h) (Or.inl ⟨by rfl, ?_⟩) (by assumption) ?_
                              case refine_2 => (intro w hSw; (try dsimp only at hSw); go_simp <;> with_reducible rfl)
                              simp only [Act.put, List.setIfInBounds_toArray, List.set_cons_zero, List.set_cons_succ]
                              refine wpAnyH_take (i := 26) (v := ?_) (List.getElem?_toArray.trans rfl) (by decide +kernel) (by decide +kernel) (by decide +kernel) (fun _ _ _ h => h) (Or.inl ⟨by rfl, ?_⟩) (by assumption) ?_
                              case refine_2 => (intro w hSw; (try dsimp only at hSw); clear hSw; go_simp <;> with_reducible rfl)
                              simp only [Act.put, List.setIfInBounds_toArray, List.set_cons_zero, List.set_cons_succ]
                              refine wpAnyH_take (i := 27) (v := ?_) (List.getElem?_toArray.trans rfl) (by decide +kernel) (by decide +kernel) (by decide +kernel) (fun _ _ _ h => h) (Or.inl ⟨by rfl, ?_⟩) (by assumption) ?_
                              case refine_2 => (intro w hSw; (try dsimp only at hSw); clear hSw; go_simp <;> with_reducible rfl)
                              simp only [Act.put, List.setIfInBounds_toArray, List.set_cons_zero, List.set_cons_succ]
                              refine wpAnyH_take (i := 28) (v := ?_) (List.getElem?_toArray.trans rfl) (by decide +kernel) (by decide +kernel) (by decide +kernel) (fun _ _ _ h => h) (Or.inl ⟨by rfl, ?_⟩) (by assumption) ?_
                              case refine_2 => (intro w hSw; (try dsimp only at hSw); clear hSw; go_simp <;> with_reducible rfl)
                              simp only [Act.put, List.setIfInBounds_toArray, List.set_cons_zero, List.set_cons_succ]
                              refine wpAnyH_take (i := 29) (v := ?_) (List.getElem?_toArray.trans rfl) (by decide +kernel) (by decide +kernel) (by decide +kernel) (fun _ _ _ h => h) (Or.inl ⟨by rfl, ?_⟩) (by assumption) ?_
                              case refine_2 => (intro w hSw; (try dsimp only at hSw); clear hSw; go_simp <;> with_reducible rfl)
                              simp only [Act.put, List.setIfInBounds_toArray, List.set_cons_zero, List.set_cons_succ]
                              refine wpAnyH_take (i := 30) (v := ?_) (List.getElem?_toArray.trans rfl) (by decide +kernel) (by decide +kernel) (by decide +kernel) (fun _ _ _ h => h) (Or.inl ⟨by rfl, ?_⟩) (by assumption) ?_
                              case refine_2 => (intro w hSw; (try dsimp only at hSw); clear hSw; go_simp <;> with_reducible rfl)
                              simp only [Act.put, List.setIfInBounds_toArray, List.set_cons_zero, List.set_cons_succ]
                              refine wpAnyH_take (i := 31) (v := ?_) (List.getElem?_toArray.trans rfl) (by decide +kernel) (by decide +kernel) (by decide +kernel) (fun _ _ _ h => h) (Or.inl ⟨by rfl, ?_⟩) (by assumption) ?_
                              case refine_2 => (intro w hSw; (try dsimp only at hSw); go_simp <;> with_reducible rfl)
                              simp only [Act.put, List.setIfInBounds_toArray, List.set_cons_zero, List.set_cons_succ]
                              refine wpAnyH_take (i := 32) (v := ?_) (List.getElem?_toArray.trans rfl) (by decide +kernel) (by decide +kernel) (by decide +kernel) (fun _ _ _ h => h) (Or.inl ⟨by rfl, ?_⟩) (by assumption) ?_
                              case refine_2 => (intro w hSw; (try dsimp only at hSw); clear hSw; go_simp <;> with_reducible rfl)
                              simp only [Act.put, List.setIfInBounds_toArray, List.set_cons_zero, List.set_cons_succ]
                              refine wpAnyH_take (i := 33) (v := ?_) (List.getElem?_toArray.trans rfl) (by decide +kernel) (by decide +kernel) (by decide +kernel) (fun _ _ _ h => h) (Or.inl ⟨by rfl, ?_⟩) (by assumption) ?_
                              case refine_2 => (intro w hSw; (try dsimp only at hSw); clear hSw; go_simp <;> with_reducible rfl)
                              simp only [Act.put, List.setIfInBounds_toArray, List.set_cons_zero, List.set_cons_succ]
                              refine wpAnyH_take (i := 34) (v := ?_) (List.getElem?_toArray.trans rfl) (by decide +kernel) (by decide +kernel) (by decide +kernel) (fun _ _ _ h => h) (Or.inl ⟨by rfl, ?_⟩) (by assumption) ?_
                              case refine_2 => (intro w hSw; (try dsimp only at hSw); clear hSw; go_simp <;> with_reducible rfl)
                              simp only [Act.put, List.setIfInBounds_toArray, List.set_cons_zero, List.set_cons_succ]
                              refine wpAnyH_take (i := 35) (v := ?_) (List.getElem?_toArray.trans rfl) (by decide +kernel) (by decide +kernel) (by decide +kernel) (fun _ _ _ h => h) (Or.inl ⟨by rfl, ?_⟩) (by assumption) ?_
                              case refine_2 => (intro w hSw; (try dsimp only at hSw); clear hSw; go_simp <;> with_reducible rfl)
                              simp only [Act.put, List.setIfInBounds_toArray, List.set_cons_zero, List.set_cons_succ]
                              refine wpAnyH_take (i := 36) (v := .agg cs.toArray) (List.getElem?_toArray.trans rfl) (by decide +kernel) (by decide +kernel) (by decide +kernel) (fun _ _ _ h => h) ?_ (by assumption) ?_
                              · exact yieldsIf_load_mid (by rfl) 35 _ (by rfl) w.heap.size 0 (by rfl) cs _ (fun _ h => h.1) Tryd.underlying35 (by rfl) HSZ.out
                              simp only [Act.put, List.setIfInBounds_toArray, List.set_cons_zero, List.set_cons_succ]
                              refine wpAnyH_take (i := 37) (v := ?_) (List.getElem?_toArray.trans rfl) (by decide +kernel) (by decide +kernel) (by decide +kernel) (fun _ _ _ h => h) (Or.inl ⟨by rfl, ?_⟩) (by assumption) ?_
                              case refine_2 => (intro w hSw; (try dsimp only at hSw); clear hSw; go_simp <;> with_reducible rfl)
                              simp only [Act.put, List.setIfInBounds_toArray, List.set_cons_zero, List.set_cons_succ]
                              refine wpAnyH_take (i := 39) (v := ?_) (List.getElem?_toArray.trans rfl) (by decide +kernel) (by decide +kernel) (by decide +kernel) (fun _ _ _ h => h) (Or.inl ⟨by rfl, ?_⟩) (by assumption) ?_
                              case refine_2 => (intro w hSw; (try dsimp only at hSw); clear hSw; go_simp <;> with_reducible rfl)
                              simp only [Act.put, List.setIfInBounds_toArray, List.set_cons_zero, List.set_cons_succ]
                              refine wpAnyH_take (i := 40) (v := ?_) (List.getElem?_toArray.trans rfl) (by decide +kernel) (by decide +kernel) (by decide +kernel) (fun _ _ _ h => h) (Or.inl ⟨by rfl, ?_⟩) (by assumption) ?_
                              case refine_2 => (intro w hSw; (try dsimp only at hSw); go_simp <;> with_reducible rfl)
                              simp only [Act.put, List.setIfInBounds_toArray, List.set_cons_zero, List.set_cons_succ]
                              refine wpAnyH_ready (rs := [38]) (by decide +kernel) (by simp) ?_
                              refine AllReadyH.cons (List.getElem?_toArray.trans rfl) (fun K hK => ?_) AllReadyH.nil
                              go_simp
                              go_at_call 17; (with_reducible refine (cF _ (HBZ.out.trans (HB0.out.mono HBZ.out.size))).mono ?_); rintro e wc ⟨rfl, hbn⟩; replace HB0 := Lib.hid (HB0.out.trans (hbn.mono HB0.out.size)); have hP := HPS.out _ HB0.out; clear hbn
                              refine hK.out _ _ hP (fun hHeld => ?_)
                              clear hK K
                              refine wpAnyH_take (i := 41) (v := ?_) (List.getElem?_toArray.trans rfl) (by decide +kernel) (by decide +kernel) (by decide +kernel) (fun _ _ _ h => h) (Or.inl ⟨by rfl, ?_⟩) (by assumption) ?_
                              case refine_2 => (intro w hSw; (try dsimp only at hSw); clear hSw; go_simp <;> with_reducible rfl)
                              simp only [Act.put, List.setIfInBounds_toArray, List.set_cons_zero, List.set_cons_succ]
                              refine wpAnyH_take (i := 42) (v := ?_) (List.getElem?_toArray.trans rfl) (by decide +kernel) (by decide +kernel) (by decide +kernel) (fun _ _ _ h => h) (Or.inl ⟨by rfl, ?_⟩) (by assumption) ?_
                              case refine_2 => (intro w hSw; (try dsimp only at hSw); clear hSw; go_simp <;> with_reducible rfl)
                              simp only [Act.put, List.setIfInBounds_toArray, List.set_cons_zero, List.set_cons_succ]
                              refine wpAnyH_take (i := 43) (v := ?_) (List.getElem?_toArray.trans rfl) (by decide +kernel) (by decide +kernel) (by decide +kernel) (fun _ _ _ h => h) (Or.inl ⟨by rfl, ?_⟩) (by assumption) ?_
                              case refine_2 => (intro w hSw; (try dsimp only at hSw); clear hSw; go_simp <;> with_reducible rfl)
                              simp only [Act.put, List.setIfInBounds_toArray, List.set_cons_zero, List.set_cons_succ]
                              refine wpAnyH_take (i := 44) (v := undef) (List.getElem?_toArray.trans rfl) (by decide +kernel) (by decide +kernel) (by decide +kernel) (fun _ _ _ h => h) (Or.inr ⟨by rfl, rfl⟩) (by assumption) ?_
                              simp only [Act.put, List.setIfInBounds_toArray, List.set_cons_zero, List.set_cons_succ]
                              refine wpAnyH_take (i := 45) (v := undef) (List.getElem?_toArray.trans rfl) (by decide +kernel) (by decide +kernel) (by decide +kernel) (fun _ _ _ h => h) (Or.inr ⟨by rfl, rfl⟩) (by assumption) ?_
                              simp only [Act.put, List.setIfInBounds_toArray, List.set_cons_zero, List.set_cons_succ]
                              refine wpAnyH_take (i := 46) (v := undef) (List.getElem?_toArray.trans rfl) (by decide +kernel) (by decide +kernel) (by decide +kernel) (fun _ _ _ h => h) (Or.inr ⟨by rfl, rfl⟩) (by assumption) ?_
                              simp only [Act.put, List.setIfInBounds_toArray, List.set_cons_zero, List.set_cons_succ]
                              refine wpAnyH_take (i := 47) (v := undef) (List.getElem?_toArray.trans rfl) (by decide +kernel) (by decide +kernel) (by decide +kernel) (fun _ _ _ h => h) (Or.inr ⟨by rfl, rfl⟩) (by assumption) ?_
                              simp only [Act.put, List.setIfInBounds_toArray, List.set_cons_zero, List.set_cons_succ]
                              refine wpAnyH_take (i := 48) (v := undef) (List.getElem?_toArray.trans rfl) (by decide +kernel) (by decide +kernel) (by decide +kernel) (fun _ _ _ h => h) (Or.inr ⟨by rfl, rfl⟩) (by assumption) ?_
                              simp only [Act.put, List.setIfInBounds_toArray, List.set_cons_zero, List.set_cons_succ]
                              refine wpAnyH_take (i := 49) (v := ?_) (List.getElem?_toArray.trans rfl) (by decide +kernel) (by decide +kernel) (by decide +kernel) (fun _ _ _ h => h) (Or.inl ⟨by rfl, ?_⟩) (by assumption) ?_
                              case refine_2 => (intro w hSw; (try dsimp only at hSw); clear hSw; go_simp <;> with_reducible rfl)
                              simp only [Act.put, List.setIfInBounds_toArray, List.set_cons_zero, List.set_cons_succ]
                              refine wpAnyH_done (by decide +kernel) ?_ _
                              refine NoPanic.normal ?_
                              go_wp2_with fail
                              go_meet
                              exact ⟨true, rfl, Lib.hid ⟨HB0.out, fun _ => HE.out, fun h => (nomatch h)⟩⟩
                          · have k6 : (g1 != g2) = true := by simp [h6]
                            have k6x : (g1 ^^ g2) = true := by simpa using h6
                            have k6e : (g1 == g2) = false := by simpa using h6
                            have HE := Lib.hid (HQ6.out h6)
                            go_quiet (fail)
                            go_wp2_with fail
                            go_meet
                            exact ⟨true, rfl, Lib.hid ⟨below_drewN (Below.refl _ _) _, fun _ => HE.out, fun h => (nomatch h)⟩⟩
                  · have k1 : (pb != xb) = true := by simp [h1]
                    have k1x : (pb ^^ xb) = true := by simpa using h1
                    have k1e : (pb == xb) = false := by simpa using h1
                    have HE := Lib.hid (HQ1.out h1)
                    go_quiet (fail)
                    go_wp2_with fail
                    go_meet
                    exact ⟨true, rfl, Lib.hid ⟨below_drewN (Below.refl _ _) _, fun _ => HE.out, fun h => (nomatch h)⟩⟩
              case rest =>
                obtain ⟨r, rfl, HC⟩ := hcut
                obtain ⟨w16, rfl⟩ : ∃ w16, w16 = wc := ⟨_, rfl⟩
                have HB16 := Lib.hid HC.out.1
                have HW16 : Hid (Below w.heap.size w w16) := Lib.hid (HBZ.out.trans (HC.out.1.mono HBZ.out.size))
                have HFA : Hid (ps ≠ ss → q = false) := Lib.hid fun h => HFAIL.out ob (by rw [← HPQ.out, ← HEQ.out, ← HPS.out, ← HSS.out]; exact h)
                have HRT := Lib.hid HC.out.2.1
                have HRF := Lib.hid HC.out.2.2
                clear HC cF cL hq2 hq4 hq5 HQ1 HQ2 HQ4 HQ5 HQ6 HQ7 HQ8 hg2' y0 y1 y2 y3 y4 y5 y6 y7 y8 y9 y10 y11 x0 x1 x2 x3 x4 a0 a1 e0 e1
                cases r
                · have HEQS : Hid (psl = sl → ps = ss) := Lib.hid (by
                    obtain ⟨a1, a2, a3, a4, a5⟩ := HRF.out rfl
                    exact fun h => HFIN.out a1 a2 a3 a4 a5 h)
                  have HNEL : Hid (psl ≠ sl → ps ≠ ss) := Lib.hid fun h e => h (by
                    have e1 := congrArg Ix.Sl.sl e
                    rw [HPS.out, HSS.out] at e1
                    exact e1)
                  obtain ⟨Av, cv, rfl, hcv, hrows⟩ := HSR.out
                  have hssl : ss.sl = sl := by rw [HSS.out]
                  have cP := fun W (hb : Below w.heap.size w W) => lxPlaces_any ob (HT.out.on hb) (HIX.out.below hb) HS.out
                  have cA := fun W (hb : Below w.heap.size w W) (i : Int) (hi : W64 i) => lxAt_any ob i hi (HIX.out.below hb)
                  have cS := fun W (hb : Below w.heap.size w W) => lxSlices_any ob (HIX.out.below hb) HS.out
                  have hpsl : ps.sl = psl := by rw [HPS.out]
                  rw [← HPQ.out, ← HPS.out, hpsl] at cP cA cS
                  have HOKP : Hid (Ix.Ok1 ps) := Lib.hid (by rw [HPS.out, HPQ.out]; exact ok_see HS.out ob)
                  have HOKS : Hid (Ix.Ok1 ss) := Lib.hid (by rw [HSS.out, HEQ.out]; exact ok_see HTT.out ob)
                  have HX16 := Lib.hid (HXZ.out.below HB16.out)
                  have hs16 := (HB16.out.block _ (lt_of_at HFZ.out.1)).trans HFZ.out.1
                  have y8 := (ScBox.cells hs16).2.2.2.2.2.2.2.2.1
                  have HS16 := Lib.hid hs16
                  have HPSL := Lib.hid hpsl
                  have HSSL := Lib.hid hssl
                  have HROWS := Lib.hid hrows
                  try dsimp only at y8
                  clear hs16 hpsl hssl hrows hcv
                  obtain ⟨n2, hn2⟩ : ∃ n2, n2 = sl.length := ⟨_, rfl⟩
                  have HN2 := Lib.hid hn2
                  rw [← hn2] at y8
                  clear hn2
                  go_upto_if 129 with (first
                    | (refine wpList_load_mid (by rfl) 35 (.tmp 2) (by rfl) w.heap.size 0 (by rfl) cs _ HX16.out.range Tryd.underlying35 (by rfl) HSZ.out ?_)
                    | (go_at_call 25; (with_reducible refine (cP _ HW16.out).mono ?_); rintro e wP ⟨AP, kP, rfl, hvP, hcP, hbP⟩; obtain ⟨n1, hn1⟩ : ∃ n1, n1 = (psl.map (·.2)).length := ⟨_, rfl⟩; rw [← hn1] at hvP ⊢; have HN1 : Hid (n1 = psl.length) := Lib.hid (hn1.trans (List.length_map _)); have HVP := Lib.hid hvP; have HBP := Lib.hid hbP; have hy := (hbP.cell (p := ⟨b7, 8, none⟩) (lt_of_at HS16.out)).trans y8; clear hn1 hvP hcP hbP y8 HX16))
                  have HWP : Hid (Below w.heap.size w wP) := Lib.hid (HW16.out.trans (HBP.out.mono HW16.out.size))
                  by_cases hn : n1 = n2
                  · subst hn
                    rw [show ((n1 : Int) != (n1 : Int)) = false by simp]
                    have HXP : Hid (∀ W, Below wP.heap.size wP W → IxBox W w.heap.size cs) := Lib.hid fun W hB => (HXZ.out.below HB16.out).below (HBP.out.trans (hB.mono HBP.out.size))
                    have HNL : Hid (n1 ≤ 4097) := Lib.hid (by have h9 := ok_len HOKS.out; rw [HSSL.out, ← HN2.out] at h9; exact h9)
                    go_wp2_with fail
                    go_loopw [15, 133] (fun v i wr => ∃ (k c : Nat) (A : Option Addr), k ≤ n1 ∧ i = .int .i64 k ∧ v = .slice A k c ∧ Hid (Inw wP wr psl sl k (.slice A k c))) (fun _ i _ => n1 - (intOf i).toNat)
                    case atStart => exact ⟨0, 0, none, by omega, rfl, rfl, Lib.hid ⟨⟨rfl, .inl ⟨rfl, rfl⟩⟩, fun z hz => by simp at hz, Below.refl _ _⟩⟩
                    case round =>
                      as_aux_lemma =>
                        obtain ⟨k, c, A, hk, rfl, rfl, HI⟩ := hrel
                        by_cases hlt : k < n1
                        · have hk2 : k < sl.length := by rw [← HN2.out]; exact hlt
                          have hk1 : k < psl.length := by rw [← HN1.out]; exact hlt
                          have hwr : Below w.heap.size w wr := HWP.out.trans (HI.out.below.mono HWP.out.size)
                          obtain ⟨g, off, cur, rfl, hg, -, hcells⟩ := HROWS.out (by omega)
                          have hgl := (Array.getElem?_eq_some_iff.1 hg).1
                          have hcell : ∀ j (hj : j < (scV sl).length), wr.cell? ⟨g, off + j, none⟩ = some (scV sl)[j] := fun j hj => (World.cell?_of_block (hwr.block g hgl)).trans (hcells j hj)
                          obtain ⟨v0, v1, v2⟩ := scV_get sl k hk2
                          have q0 : wr.cell? ⟨g, off + k * 3, none⟩ = some (.int .i64 sl[k].1) := by
                            have h9 := hcell (k * 3) (by rw [scV_length]; omega)
                            rw [h9, ← v0, List.getElem?_eq_getElem]
                          have q1 : wr.cell? ⟨g, off + k * 3 + 1, none⟩ = some (.int .i64 sl[k].2.1) := by
                            have h9 := hcell (k * 3 + 1) (by rw [scV_length]; omega)
                            rw [Nat.add_assoc, h9, ← v1, List.getElem?_eq_getElem]
                          have q2 : wr.cell? ⟨g, off + k * 3 + 2, none⟩ = some (.int .i64 sl[k].2.2) := by
                            have h9 := hcell (k * 3 + 2) (by rw [scV_length]; omega)
                            rw [Nat.add_assoc, h9, ← v2, List.getElem?_eq_getElem]
                          obtain ⟨bp, op, rfl, hbp, hpc⟩ := HVP.out.2 (by omega)
                          have hadl := adL_get (psl.map (·.2)) k (by rw [List.length_map]; exact hk1)
                          rw [List.getElem_map] at hadl
                          have HPC : Hid (∀ W, Below wP.heap.size wP W → W.cell? ⟨bp, op + k * 2, none⟩ = some (.int .i64 psl[k].2.1) ∧ W.cell? ⟨bp, op + k * 2 + 1, none⟩ = some (.int .i64 psl[k].2.2)) := Lib.hid fun W hB => by
                            have h8 := hpc (k * 2) (by rw [adL_length, List.length_map]; omega)
                            have h9 := hpc (k * 2 + 1) (by rw [adL_length, List.length_map]; omega)
                            refine ⟨(hB.cell (p := ⟨bp, op + k * 2, none⟩) hbp).trans ?_, (hB.cell (p := ⟨bp, op + k * 2 + 1, none⟩) hbp).trans ?_⟩
                            · rw [h8, ← hadl.1, List.getElem?_eq_getElem]
                            · rw [Nat.add_assoc, h9, ← hadl.2, List.getElem?_eq_getElem]
                          have hmem : sl[k] ∈ sl := List.getElem_mem hk2
                          have HZW : Hid (W64 sl[k].1) := Lib.hid (by
                            have h9 := HOKS.out.num sl[k] (by rw [HSSL.out]; exact hmem)
                            exact WalkArith.wf_i64 (by omega))
                          have HTAKE : Hid (nums .i64 ((sl.take k).map (·.1)) ++ [.int .i64 sl[k].1] = nums .i64 ((sl.take (k + 1)).map (·.1))) := Lib.hid (by
                            rw [List.take_succ_eq_append_getElem hk2, List.map_append, ← nums_append]
                            rfl)
                          have HSAME : Hid (Ix.look psl sl[k].1 = some sl[k].2 → ∀ z ∈ sl.take (k + 1), Ix.look psl z.1 = some z.2) := Lib.hid fun h z hz => by
                            rw [List.take_succ_eq_append_getElem hk2] at hz
                            rcases List.mem_append.1 hz with hz | hz
                            · exact HI.out.same z hz
                            · rw [List.mem_singleton.1 hz]; exact h
                          have HBAD1 : Hid (Ix.look psl sl[k].1 ≠ some sl[k].2 → psl ≠ sl) := Lib.hid fun h e => h (by
                            rw [e]
                            exact look_of_mem (by rw [← HSSL.out]; exact HOKS.out.rise) hmem)
                          have HBAD2 : Hid (psl[k].2 ≠ sl[k].2 → psl ≠ sl) := Lib.hid fun h e => h (by subst e; rfl)
                          have cAz := fun W hb => cA W hb sl[k].1 HZW.out
                          generalize sl[k] = z at *
                          generalize psl[k].2 = pz at *
                          obtain ⟨z1, za, zb⟩ := z
                          obtain ⟨pz1, pz2⟩ := pz
                          dsimp only at q0 q1 q2 cAz HZW HTAKE HSAME HBAD1 HBAD2 HPC
                          obtain ⟨lo, hlook⟩ : ∃ lo, lo = Ix.look psl z1 := ⟨_, rfl⟩
                          rw [← hlook] at cAz HSAME HBAD1
                          obtain ⟨is9, his⟩ : ∃ b, b = lo.isSome := ⟨_, rfl⟩
                          obtain ⟨⟨lk1, lk2⟩, hlk⟩ : ∃ a, a = lo.getD (0, 0) := ⟨_, rfl⟩
                          rw [← his, ← hlk] at cAz
                          have hqa := ad_neq (lk1, lk2) (za, zb)
                          have hqb := ad_neq (pz1, pz2) (za, zb)
                          obtain ⟨ra, hra⟩ : ∃ r, r = adB (lk1, lk2) (za, zb) := ⟨_, rfl⟩
                          obtain ⟨rbb, hrb⟩ : ∃ r, r = adB (pz1, pz2) (za, zb) := ⟨_, rfl⟩
                          rw [← hra] at hqa
                          rw [← hrb] at hqb
                          have HX1 : Hid (is9 = false → lo ≠ some (za, zb)) := Lib.hid fun h e => by rw [his, e] at h; cases h
                          have HX2 : Hid (ra = false → lo ≠ some (za, zb)) := Lib.hid fun h e => by
                            rw [e] at hlk
                            have h9 := adB_iff.2 (show ((lk1, lk2) : Ix.Ad) = (za, zb) from hlk)
                            rw [← hra, h] at h9
                            cases h9
                          have HX3 : Hid (rbb = false → ((pz1, pz2) : Ix.Ad) ≠ (za, zb)) := Lib.hid fun h e => by
                            have h9 := adB_iff.2 e
                            rw [← hrb, h] at h9
                            cases h9
                          have HX4 : Hid (is9 = true → ra = true → lo = some (za, zb)) := Lib.hid fun h1 h2 => by
                            cases lo with
                            | none => rw [his] at h1; cases h1
                            | some a => rw [show (some a).getD (0, 0) = a from rfl] at hlk; rw [← hlk, adB_iff.1 (hra.symm.trans h2)]
                          have HVS : Hid (Vs ((wr.alloc (.cells #[.int .i64 z1, .int .i64 za, .int .i64 zb] 49)).alloc (.cells #[.int .i64 z1] 3)) (wr.heap.size + 1 + 1) (some ⟨wr.heap.size + 1, 0, none⟩) 1 [.int .i64 z1]) := Lib.hid (by
                            have h9 := Vs.new (wr.alloc (.cells #[.int .i64 z1, .int .i64 za, .int .i64 zb] 49)) 3 (0, 0) #[.int .i64 z1]
                            rwa [World.size_alloc] at h9)
                          have HGA : Hid (k < n1) := Lib.hid hlt
                          clear hk hk1 hk2 hlt hg hgl hcell hcells v0 v1 v2 hbp hpc hadl hmem hwr hlook his hlk hra hrb
                          go_upto_region 27 with (first
                            | (at_builtin; refine wpList_append_vals (o := ⟨some 142, _, _, _, _, _⟩) rfl (.tmp 138) (.tmp 141) 68 rfl wP.heap.size 3 i0 _ 8 Tryd.underlying68 HI0.out HZ.out HSI.out HBY.out rfl _ k (nums .i64 ((sl.take k).map (·.1))) rfl ((HI.out.row.alloc _).alloc _) (wr.heap.size + 1 + 1) (some ⟨wr.heap.size + 1, 0, none⟩) 1 1 [.int .i64 z1] rfl HVS.out (by intro u hu; simp at hu; subst hu; rfl) (by have h8 := HGA.out; have h9 := HNL.out; omega) (by have h8 := HGA.out; have h9 := HNL.out; omega) (by have := HI.out.below.size; simp; omega) ?_; intro v2 w2 HO2 HG2; have hb1 := (HI.out.below.alloc HI.out.below.size (.cells #[.int .i64 z1, .int .i64 za, .int .i64 zb] 49)).alloc (by have := HI.out.below.size; simp; omega) (.cells #[.int .i64 z1] 3); have hb2 := hb1.grown HG2.out hb1.size (fun q hq => (HI.out.row.lt q hq).1); have HB2 := Lib.hid hb2; have HW2 : Hid (Below w.heap.size w w2) := Lib.hid (HWP.out.trans (hb2.mono HWP.out.size)); have HX2B := Lib.hid (HXP.out _ hb2); have hzb := var_kept (b := wr.heap.size) (W := (wr.alloc (.cells #[.int .i64 z1, .int .i64 za, .int .i64 zb] 49)).alloc (.cells #[.int .i64 z1] 3)) ((Below.heap_alloc _ _ _ (by simp)).trans (heap_alloc_new wr _)) (by decide) HG2.out ((HI.out.row.alloc _).alloc _); have HZB := Lib.hid hzb; obtain ⟨y0, y1, y2⟩ := cells3 hzb; clear hb1 hb2 hzb HG2)
                            | (refine wpList_load_mid (by rfl) 35 (.tmp 2) (by rfl) w.heap.size 0 (by rfl) cs _ HX2B.out.range Tryd.underlying35 (by rfl) HSZ.out ?_)
                            | (go_at_call 7; (with_reducible refine (cAz _ HW2.out).mono ?_); rintro e w3 ⟨rfl, hb3⟩; have hb3a := hb3.alloc hb3.size (adO (lk1, lk2)); have HB3 := Lib.hid (HB2.out.trans (hb3a.mono HB2.out.size)); have HO3 := Lib.hid (own_belowN HO2.out hb3a); have hzc := (hb3a.block _ (lt_of_at HZB.out)).trans HZB.out; obtain ⟨x0, x1, x2⟩ := cells3 hzc; have HR3 : Hid ((w3.alloc (adO (lk1, lk2))).heap[w3.heap.size]? = some (adO (lk1, lk2))) := Lib.hid (heap_alloc_new w3 _); clear y0 y1 y2 hzc hb3 hb3a))
                          obtain ⟨A2, c2, rfl, -, -⟩ := Vs.of_own HO2.out
                          obtain ⟨wy, hwy⟩ : ∃ wy, wy = w3.alloc (.cells #[.int .i64 lk1, .int .i64 lk2] 30) := ⟨_, rfl⟩
                          have hby := HB3.out
                          have hoy := HO3.out
                          have hry := HR3.out
                          try dsimp only [adO] at x1 x2 hby hoy hry
                          try dsimp only [adV] at hqa hqb
                          rw [← hwy] at x1 x2 hby hoy hry ⊢
                          rw [HTAKE.out] at hoy
                          have HBY3 := Lib.hid hby
                          have HWY : Hid (Below w.heap.size w wy) := Lib.hid (HWP.out.trans (hby.mono HWP.out.size))
                          have HOY3 := Lib.hid hoy
                          obtain ⟨e0, e1⟩ := HPC.out _ hby
                          have hc := fun j => cells_at (C := [.int .i64 lk1, .int .i64 lk2]) hry j
                          have f0 : wy.cell? ⟨w3.heap.size, 0, none⟩ = some (.int .i64 lk1) := hc 0
                          have f1 : wy.cell? ⟨w3.heap.size, 1, none⟩ = some (.int .i64 lk2) := hc 1
                          obtain ⟨b18, hb18⟩ : ∃ b, b = wr.heap.size := ⟨_, rfl⟩
                          obtain ⟨b19, hb19⟩ : ∃ b, b = w3.heap.size := ⟨_, rfl⟩
                          rw [← hb18] at x1 x2 ⊢
                          rw [← hb19] at f0 f1 ⊢
                          clear hc hwy hb18 hb19 hby hoy hry x0 HB3 HO3 HR3 HZB HO2 HVS cAz q0 q1 q2 hy
                          cases is9
                          · have HE := Lib.hid (HFA.out (HNEL.out (HBAD1.out (HX1.out rfl))))
                            go_quiet (fail)
                            go_wp2_with fail
                            go_ret
                            exact ⟨by rw [HE.out]; rfl, below_drewN HWY.out _⟩
                          · cases ra
                            · have HE := Lib.hid (HFA.out (HNEL.out (HBAD1.out (HX2.out rfl))))
                              try simp only [Bool.not_false] at hqa
                              go_quiet (fail)
                              go_wp2_with fail
                              go_ret
                              exact ⟨by rw [HE.out]; rfl, below_drewN HWY.out _⟩
                            · try simp only [Bool.not_true] at hqa
                              cases rbb
                              · have HE := Lib.hid (HFA.out (HNEL.out (HBAD2.out (HX3.out rfl))))
                                try simp only [Bool.not_false] at hqb
                                go_quiet (fail)
                                go_wp2_with fail
                                go_ret
                                exact ⟨by rw [HE.out]; rfl, below_drewN HWY.out _⟩
                              · try simp only [Bool.not_true] at hqb
                                have HSM := Lib.hid (HSAME.out (HX4.out rfl rfl))
                                have h8 := HGA.out
                                have h9 := HNL.out
                                go_quiet (fail)
                                go_wp2_with fail
                                go_roundw
                                case rel => exact ⟨k + 1, c2, A2, by omega, by go_num, rfl, Lib.hid ⟨own_belowN HOY3.out (below_drewN (Below.refl _ _) _), HSM.out, below_drewN HBY3.out _⟩⟩
                                case measure => simp [intOf]; omega
                        · have hk9 : k = n1 := by omega
                          subst hk9
                          have hlen : sl.length = psl.length := by rw [← HN2.out, ← HN1.out]
                          have htk : sl.take k = sl := List.take_of_length_le (by rw [← HN2.out]; exact Nat.le_refl _)
                          have hall : ∀ z ∈ sl, z ∈ psl := fun z hz => look_mem (HI.out.same z (by rw [htk]; exact hz))
                          have hR1 : Ix.Rise sl := by rw [← HSSL.out]; exact HOKS.out.rise
                          have hR2 : Ix.Rise psl := by rw [← HPSL.out]; exact HOKP.out.rise
                          have hll : psl = sl := (rise_eq sl psl hR1 hR2 hlen hall).symm
                          have HSM : Hid (Ix.see S ob = Ix.see T ob) := Lib.hid (HPQ.out.symm.trans (HPS.out.symm.trans ((HEQS.out hll).trans (HSS.out.trans HEQ.out))))
                          have HLK : Bm.lst (keysOf psl) 4160 = sl.map (·.1) := by
                            have h9 := lst_keys HOKP.out
                            rw [HPSL.out] at h9
                            rw [h9, hll]
                          have cLs : ∀ W, Tab64 W → Calls Tryd.prog 28 #[mapV (keysOf psl)] W (NumsTo (sl.map (·.1)) W) := fun W h => by rw [← HLK]; exact list_any _ W h
                          have hLM : (sl.map (·.1)).length = k := by rw [List.length_map]; exact HN2.out.symm
                          have ho := HI.out.row
                          rw [htk] at ho
                          obtain ⟨A7, c7, e7, hvs, -⟩ := Vs.of_own ho
                          injection e7 with e1 e2 e3
                          subst e1 e3
                          have HVT := Lib.hid hvs
                          have hZ : Below wz.heap.size wz wP := HB16.out.trans (HBP.out.mono HB16.out.size)
                          have hZr := hZ.trans (HI.out.below.mono hZ.size)
                          have HZR := Lib.hid hZr
                          have HWR : Hid (Below w.heap.size w wr) := Lib.hid (HWP.out.trans (HI.out.below.mono HWP.out.size))
                          have HXR : Hid (IxBox wr w.heap.size cs) := Lib.hid (HXP.out _ HI.out.below)
                          have HPR := Lib.hid HI.out.below
                          have d9 : decide ((k : Int) < (k : Int)) = false := by simp
                          have hlo := HLO.out
                          have hhi := HHI.out
                          have h9 := HNL.out
                          clear hlen htk hall hR1 hR2 hll HLK ho hvs hZ hZr hlt hk HI HROWS HVP hy
                          go_wp2_with (first
                            | (refine wpList_load_mid (by rfl) 35 (.tmp 2) (by rfl) w.heap.size 0 (by rfl) cs _ HXR.out.range Tryd.underlying35 (by rfl) HSZ.out ?_)
                            | (go_at_call 27; (with_reducible refine (cS _ HWR.out).mono ?_); rintro e wS ⟨rfl, hbS⟩; have HBS := Lib.hid hbS; clear hbS)
                            | (go_at_call 28; (with_reducible refine (cLs _ (HT.out.on (HWR.out.trans (HBS.out.mono HWR.out.size)))).mono ?_); rintro e wL ⟨AL, cL, rfl, hvL, -, hbL⟩; rw [hLM] at hvL ⊢; have HVL := Lib.hid hvL; have HBL := Lib.hid (HBS.out.trans (hbL.mono HBS.out.size)); clear hvL hbL)
                            | (go_at_call 26; (with_reducible refine (ints_same _ _ k _ _ wL.heap.size _ wL HVL.out ((HVT.out.below HBL.out).mono HBL.out.size) (by omega)).mono ?_); rintro e wI ⟨rfl, mm, rfl⟩))
                          have hE := below_drewN HBL.out mm
                          go_roundw
                          case rel => exact ⟨ob + 1, m9, A9, c9, by omega, by omega, by go_num, rfl, Lib.hid ⟨same_next HL.out.same HSM.out, HM9.out, own_belowN HRZ2.out (HZR.out.trans (hE.mono HZR.out.size)), HXP.out _ (HPR.out.trans (hE.mono HPR.out.size)), HWR.out.trans (hE.mono HWR.out.size)⟩⟩
                          case measure => simp only [intOf]; omega
                  · have HE := Lib.hid (HFA.out (HNEL.out fun e => hn (by rw [HN1.out, HN2.out, e])))
                    rw [show ((n1 : Int) != (n2 : Int)) = true by simp; omega]
                    clear hn
                    go_wp2
                    go_ret
                    exact ⟨by rw [HE.out]; rfl, HWP.out⟩
                · have HE := Lib.hid (HFA.out (HRT.out rfl))
                  go_wp2
                  go_ret
                  exact ⟨by rw [HE.out]; rfl, HW16.out⟩
    · have hob2 : ob = 17 := by omega
      subst hob2
      have d1 : decide ((17 : Int) ≤ 16) = false := by decide
      have hall : ∀ j : Nat, j < 16 → S j = T j := fun j hj => HL.out.same j hj (by omega)
      have HE := Lib.hid (HGOOD.out hall)
      have hoo := objs_congr hall
      have cO : ∀ W, Below w.heap.size w W → Calls Tryd.prog 29 #[.agg cs.toArray] W (NumsTo (objsI T 17) W) := fun W hb => by rw [← hoo]; exact lxObjects_any (HIX.out.below hb) HS.out
      obtain ⟨A7, c7, e7, hvs, -⟩ := Vs.of_own HL.out.row
      injection e7 with e1 e2 e3
      subst e1 e3
      have HVT := Lib.hid hvs
      have HWR := Lib.hid HL.out.below
      have HXR := Lib.hid HL.out.box
      have hLM := HL.out.len.symm
      have hm16 : m ≤ 16 := by rw [← hLM]; exact objsI_len T 17
      generalize objsI T 17 = lo at *
      clear hall hoo hvs HL hob
      go_wp2_with (first
        | (refine wpList_load_mid (by rfl) 35 (.tmp 2) (by rfl) w.heap.size 0 (by rfl) cs _ HXR.out.range Tryd.underlying35 (by rfl) HSZ.out ?_)
        | (go_at_call 29; (with_reducible refine (cO _ HWR.out).mono ?_); rintro e wL ⟨AL, cL, rfl, hvL, -, hbL⟩; rw [hLM] at hvL ⊢; have HVL := Lib.hid hvL; have HBL := Lib.hid hbL; clear hvL hbL)
        | (go_at_call 26; (with_reducible refine (ints_same _ _ m _ _ wL.heap.size _ wL HVL.out ((HVT.out.below HBL.out).mono HBL.out.size) (by omega)).mono ?_); rintro e wI ⟨rfl, mm, rfl⟩))
      have hE := below_drewN HBL.out mm
      go_ret
      exact ⟨by rw [HE.out]; rfl, HWR.out.trans (hE.mono HWR.out.size)⟩
end Go.Proofs.YtcmhodimkpkmbaaDoor
