/-
  The walk of FlashCrashes.
-/
import Derived.Test.YtgipbamobpmbcaaFlashLater
import Derived.Test.YtgipbamobpmbcaaFlashDoesW
namespace Go.Proofs.Ytgipbamobpmbcaa
open Go.ChangeShapes Go.WideShapes Go.ChangeAt Go.RowKit Fl

/-- one page of the copy -/
theorem copied_at {w : World} {v : Nat → Nat} {k S P B cb : Nat} {N : List Pg} (h : Rdv w v k S P B cb N) {j : Nat} (hj : j < N.length) :
    ∃ g cu A c, w.cell? ⟨cb, 3, none⟩ = some (.slice (some ⟨g, 0, none⟩) N.length cu) ∧ w.cell? ⟨g, j * 4, none⟩ = some (.int .i64 N[j].seg) ∧ w.cell? ⟨g, j * 4 + 1, none⟩ = some (.int .i64 N[j].page) ∧ w.cell? ⟨g, j * 4 + 2, none⟩ = some (.slice A B c) ∧
      w.cell? ⟨g, j * 4 + 3, none⟩ = some (.bool N[j].dirty) ∧ Bs w w.heap.size A B (full B N[j].raw) := by
  obtain ⟨u, Q, -, -, -, -, c3, -, hQ, hown, -, hdat⟩ := h.four
  rcases own_form hown with ⟨_, _, h0⟩ | ⟨g, c', rfl, hgl, _⟩
  · omega
  have hQL : Q.length = N.length := by rw [← hQ, List.length_map]
  obtain ⟨e0, e1, e2, e3, -⟩ := own_quad hown hQL hj
  obtain ⟨A, c, hx, hc, hbs, -⟩ := hdat _ (List.getElem_mem (show j < Q.length by omega))
  have hLQ : N[j] = (Q[j]'(by omega)).1 := by simp [← hQ]
  rw [full_length] at hx hbs
  rw [hx] at e2
  rw [hLQ]
  exact ⟨g, c', A, c, c3, e0, e1, e2, e3, hbs⟩
theorem copied_row {w : World} {v : Nat → Nat} {k S P B cb : Nat} {N : List Pg} (h : Rdv w v k S P B cb N) : ∃ A cu, w.cell? ⟨cb, 3, none⟩ = some (.slice A N.length cu) := by
  obtain ⟨u, Q, -, -, -, -, c3, -, hQ, hown, -, hdat⟩ := h.four
  obtain ⟨A, cu, rfl⟩ := own_len hown
  exact ⟨A, cu, c3⟩
set_option maxHeartbeats 16000000 in
set_option maxRecDepth 100000 in
theorem flashCrashes_main (S P B : Nat) (K : Nat) (t u : Int) (A : Option Addr) (n c : Nat) (L : List Dd) (A2 : Option Addr) (n2 c2 : Nat) (L2 : List Dd) (w : World) (hs : shpB S P B = true) (h : Ds w w.heap.size A n L) (hnc : n ≤ c) (hc : c ≤ maxLen) (hwf : ∀ d ∈ L, d.Wf)
    (h2 : Ds w w.heap.size A2 n2 L2) (hnc2 : n2 ≤ c2) (hc2 : c2 ≤ maxLen) (hwf2 : ∀ d ∈ L2, d.Wf) (hK : K < 18446744073709551616) (hf : fewB L = true) (hf2 : fewB L2 = true) :
    Calls Try.prog 4 #[.agg #[.int .i64 S, .int .i64 P, .int .i64 B], .slice A n c, .agg #[.int .u64 K, .int .i64 t, .int .i64 u], .slice A2 n2 c2] w (Yes w) := by
  obtain ⟨S', P', B', e1, e2, e3, hshp⟩ := shp_of hs
  obtain rfl : S = S' := by omega
  obtain rfl : P = P' := by omega
  obtain rfl : B = B' := by omega
  clear e1 e2 e3
  have hb0 : Below w.heap.size w ((w.alloc (.cells #[.int .i64 S, .int .i64 P, .int .i64 B] 23)).alloc (.cells #[.int .u64 K, .int .i64 t, .int .i64 u] 39)) := (below_new4 w _).alloc (by simp) _
  have t3 := (Three.new w (.int .i64 S) (.int .i64 P) (.int .i64 B) 23).alloc (.cells #[.int .u64 K, .int .i64 t, .int .i64 u] 39)
  have p3 := Three.new (w.alloc (.cells #[.int .i64 S, .int .i64 P, .int .i64 B] 23)) (.int .u64 K) (.int .i64 t) (.int .i64 u) 39
  have e0 : (w.alloc (.cells #[.int .i64 S, .int .i64 P, .int .i64 B] 23)).heap.size = w.heap.size + 1 := by simp
  rw [e0] at p3
  clear e0
  have ca := awake_any ((w.alloc (.cells #[.int .i64 S, .int .i64 P, .int .i64 B] 23)).alloc (.cells #[.int .u64 K, .int .i64 t, .int .i64 u] 39))
  have HB0 := Lib.hid hb0
  have HS := Lib.hid h
  have HS2 := Lib.hid h2
  have HL2 : Hid (L2.length = n2) := Lib.hid h2.1
  have hn60 : n2 ≤ 60 := by rw [← HL2.out]; exact (fewB_all hf2).2
  have HL60 : Hid (L.length ≤ 60) := Lib.hid (fewB_all hf).2
  have HFW := Lib.hid (fun W (hb : Below w.heap.size w W) => few_any A n c L W (ds_mono (HS.out.below hb) hb.size) (Nat.le_trans hnc hc))
  have HFW2 := Lib.hid (fun W (hb : Below w.heap.size w W) => few_any A2 n2 c2 L2 W (ds_mono (HS2.out.below hb) hb.size) (Nat.le_trans hnc2 hc2))
  rw [hf] at HFW
  rw [hf2] at HFW2
  have HWF := Lib.hid hwf
  have HWF2 := Lib.hid hwf2
  have HF := Lib.hid hf
  have HSB := Lib.hid hs
  have HSP := Lib.hid hshp
  have HKK := Lib.hid hK
  clear h h2 hwf hwf2 hf hf2 hs hshp hb0 hK
  unfold Yes
  go_enter Try.func4, Try.ntmps4
  go_wp2_with (first
    | (go_at_call 6; (with_reducible refine ca.mono ?_); rintro e w1 ⟨rfl, hb1⟩; have HB1 := Lib.hid (HB0.out.trans (hb1.mono HB0.out.size)); have t31 := t3.below hb1; have p31 := p3.below hb1; have cf := HFW.out _ HB1.out; clear hb1 t3 p3 ca)
    | (go_at_call 7; (with_reducible refine cf.mono ?_); rintro e w2 ⟨rfl, hb2⟩; have HB2 := Lib.hid (HB1.out.trans (hb2.mono HB1.out.size)); have t32 := t31.below hb2; have p32 := p31.below hb2; have cf2 := HFW2.out _ HB2.out; clear hb2 t31 p31 cf)
    | (go_at_call 7; (with_reducible refine cf2.mono ?_); rintro e w3 ⟨rfl, hb3⟩; have HB3 := Lib.hid (HB2.out.trans (hb3.mono HB2.out.size)); have T3 := Lib.hid (t32.below hb3); have P3 := Lib.hid (p32.below hb3); obtain ⟨-, k0, k1, k2, -⟩ := t32.below hb3; have csh := refShape_any S P B w3; rw [HSB.out] at csh; clear hb3 t32 p32 cf2)
    | (go_at_call 8; (with_reducible refine csh.mono ?_); rintro e w4 ⟨rfl, hb4⟩; have HB4 := Lib.hid (HB3.out.trans (hb4.mono HB3.out.size)); have T4 := Lib.hid (T3.out.below hb4); have P4 := Lib.hid (P3.out.below hb4); obtain ⟨-, l0, l1, l2, -⟩ := T3.out.below hb4; have cm := made_any HSP.out A n c L (ds_mono (HS.out.below HB4.out) HB4.out.size) HF.out HWF.out; clear hb4 csh)
    | (go_at_call 11; (with_reducible refine cm.mono ?_); rintro e w5 ⟨db, mb, xb, v5, rfl, hbo, hb5⟩; have HB5 := Lib.hid hb5; have HBO := Lib.hid hbo; have cy := sync_any hbo.dev (by omega); clear hb5 cm hbo)
    | (go_at_call 13; (with_reducible refine cy.mono ?_); rintro e w6 ⟨rfl, hD6, hS6⟩; obtain ⟨hR6, hz6, hl6⟩ := HBO.out.d hS6; have cx := refSync_any hR6 (by omega) (by have h1 := deeds_len S P B HL60.out; omega); have HD6 := Lib.hid hD6; have HS6 := Lib.hid hS6; have HZ6 := Lib.hid (And.intro hz6 hl6); clear cy hD6 hS6 hR6 hz6 hl6)
    | (go_at_call 14; (with_reducible refine cx.mono ?_); rintro e w7 ⟨rfl, hR7, hS7⟩; have cp := refCopy_any (k2 := 3) hR7 (by rw [sync_length]; have h1 := deeds_len S P B HL60.out; omega); have HS7 := Lib.hid hS7; have HR7 := Lib.hid hR7; clear cx hR7 hS7)
    | (go_at_call 15; (with_reducible refine cp.mono ?_); rintro e w8 ⟨cb, v8, rfl, hR8, hS8, hb8⟩; have HR8 := Lib.hid hR8; have HS8 := Lib.hid hS8; have HB8 := Lib.hid hb8; clear cp hR8 hS8 hb8))
  have HML : Hid ((deeds S P B L).length ≤ 60) := Lib.hid (deeds_len S P B HL60.out)
  generalize deeds S P B L = M at *
  have HTR : Hid (Tri w8 v8 w4.heap.size S P B db mb xb cb (sync M) (sync M)) := Lib.hid
    ⟨(HD6.out.other HS7.out (by omega) (by omega)).other (HS8.out 2) (by omega) (by omega), HR7.out.other (HS8.out 1) (by omega) (by omega), HR8.out, (HS8.out 1).zero (Nat.le_trans HZ6.out.2 HS7.out.size) (HS7.out.zero HZ6.out.2 HZ6.out.1), Nat.le_trans (Nat.le_trans HZ6.out.2 HS7.out.size) (HS8.out 1).size⟩
  have HBW : Hid (Below w4.heap.size w4 w8) := Lib.hid
    (((HB5.out.trans (HS6.out.baseB HBO.out.zero HBO.out.le (by omega))).trans (HS7.out.baseB HZ6.out.1 HZ6.out.2 (by omega))).trans (HB8.out.mono (Nat.le_trans HZ6.out.2 HS7.out.size)))
  clear HB0 HB1 HB2 HB3 HFW HFW2 HBO HD6 HS6 HZ6 HR7 HS7 HR8 HS8 HB8 HB5 HF HWF HS k0 k1 k2 l0 l1 l2 T3 P3
  go_loopw [14, 51] (fun _ i wr => ∃ (j : Nat) (v : Nat → Nat), j ≤ n2 ∧ i = .int .i64 j ∧ Hid (Tri wr v w4.heap.size S P B db mb xb cb (later S P B (sync M) (L2.take j)) (sync M)) ∧ Hid (Below w4.heap.size w4 wr)) (fun _ i _ => n2 - (intOf i).toNat)
  case atStart => exact ⟨0, v8, Nat.zero_le _, rfl, by simpa [later] using HTR, HBW⟩
  case round =>
    obtain ⟨j, v, hj, rfl, HBB, HB⟩ := hrel
    by_cases hlt : j < n2
    · obtain ⟨b, off, rfl, hbB, hc⟩ := (ds_mono ((HS2.out.below HB4.out).below (HB.out.mono HB4.out.size)) HB4.out.size).2 (by omega)
      have hjL : j < L2.length := by rw [HL2.out]; exact hlt
      have hnx : later S P B (sync M) (L2.take (j + 1)) = later1 S P B (later S P B (sync M) (L2.take j)) L2[j] := by rw [List.take_succ_eq_append_getElem hjL, later_snoc]
      have hml : (later S P B (sync M) (L2.take j)).length ≤ 120 := by
        have := later_length S P B (L2.take j) (sync M)
        rw [List.length_take, sync_length] at this
        have := HML.out
        omega
      have hda := hc j hjL
      have hwf := HWF2.out _ (List.getElem_mem hjL)
      obtain ⟨d, hd⟩ : ∃ d, d = L2[j] := ⟨_, rfl⟩
      rw [← hd] at hnx hda hwf
      have HNX := Lib.hid hnx
      have HW := Lib.hid hwf
      generalize later S P B (sync M) (L2.take j) = M1 at *
      obtain ⟨d0, d1, d2, ⟨A3, c3, d3, hc3, hbs3, hno3⟩, d4, d5, d6⟩ := hda
      have hfr := HBB.out.dev.fr
      have hbx := below_new4 wr (.cells #[.int .i64 d.kind, .int .i64 d.seg, .int .i64 d.page, .slice A3 d.data.length c3, .int .u64 d.keep, .int .i64 d.torn, .int .i64 d.cut] 43)
      have BX := Lib.hid (Bx.new d A3 c3 43 hfr)
      have BO := Lib.hid (HBB.out.below hbx)
      have HB2 := Lib.hid (HB.out.trans (hbx.mono HBB.out.le))
      have HDT : Hid (Dt wr v (.slice A3 d.data.length c3) d.data) := Lib.hid ⟨A3, c3, rfl, hc3, hbs3.mono HBB.out.le, hno3, fun h0 a ha => by
        obtain ⟨b9, off9, e9, hlt9, -⟩ := hbs3.2 h0
        rw [ha] at e9
        injection e9 with e9
        rw [e9]
        exact HBB.out.zero _ hlt9⟩
      have HDTX := Lib.hid (HDT.out.below hbx)
      clear hc hd hnx hwf hbx hfr hbs3 hc3 hno3
      by_cases hk0 : d.kind = 0
      · have hke : (d.kind == 0) = true := by simpa using hk0
        have HDE : Hid (later1 S P B M1 d = wput S P B M1 d.seg d.page d.data) := Lib.hid (by unfold later1; rw [if_pos hk0])
        have cw := write_all BO.out.dev (by omega) d.seg d.page HW.out.seg HW.out.page A3 _ c3 d.data HDTX.out.sl (by omega)
        clear hk0
        go_wp2_with (first
          | (go_at_call 16; (with_reducible refine cw.mono ?_); rintro e w3 ⟨rfl, v3, hD3, hS3⟩; obtain ⟨hR3, hC3, hz3, hl3⟩ := BO.out.d hS3; have hdt3 := HDTX.out.stp hS3 (by omega); have cx := refWrite_all hR3 (by omega) d.seg d.page A3 _ c3 d.data (dt_bs hdt3) (by omega); have BX3 := BX.out.stp hS3 (by omega); have k1 := BX3.c1; have k2 := BX3.c2; have k3 := BX3.c3; have HD3 := Lib.hid hD3; have HC3 := Lib.hid hC3; have HS3 := Lib.hid hS3; have HZ3 := Lib.hid (And.intro hz3 hl3); clear hD3 hS3 hR3 hC3 hz3 hl3 hdt3 BX3 cw)
          | (go_at_call 17; (with_reducible refine cx.mono ?_); rintro e w6 ⟨rfl, v6, hR6, hS6⟩; have HS6 := Lib.hid hS6; have HR6 := Lib.hid hR6; clear hR6 hS6 cx))
        go_roundw
        case rel =>
          refine ⟨j + 1, v6, by omega, by go_num, Lib.hid ?_, Lib.hid ?_⟩
          · rw [HNX.out, HDE.out]
            exact ⟨HD3.out.other HS6.out (by omega) (by omega), HR6.out, HC3.out.other HS6.out (by omega) (by omega), HS6.out.zero HZ3.out.2 HZ3.out.1, Nat.le_trans HZ3.out.2 HS6.out.size⟩
          · exact (HB2.out.trans (HS3.out.baseB BO.out.zero BO.out.le (by omega))).trans (HS6.out.baseB HZ3.out.1 HZ3.out.2 (by omega))
        case measure => simp [intOf]; omega
      · have hke : (d.kind == 0) = false := by simpa using hk0
        have HDE : Hid (later1 S P B M1 d = M1) := Lib.hid (by unfold later1; rw [if_neg hk0])
        clear hk0
        go_wp2
        go_roundw
        case rel => exact ⟨j + 1, v, by omega, by go_num, Lib.hid (by rw [HNX.out, HDE.out]; exact BO.out), HB2⟩
        case measure => simp [intOf]; omega
    · obtain rfl : j = n2 := by omega
      have HTK : Hid (L2.take j = L2) := Lib.hid (List.take_of_length_le (by rw [HL2.out]; exact Nat.le_refl _))
      have hml : (later S P B (sync M) L2).length ≤ 120 := by
        have := later_length S P B L2 (sync M)
        rw [sync_length, HL2.out] at this
        have := HML.out
        omega
      rw [HTK.out] at HBB
      have HKEPT := Lib.hid (fun (hok : Ok S P B (crash (keep B K t u) 0 (later S P B (sync M) L2))) q (hq : q ∈ sync M) => stays (L := L2) (f := keep B K t u) rfl hok hq)
      have HDC := Lib.hid (dirt_crash (keep B K t u) (later S P B (sync M) L2) 0)
      have HCL := Lib.hid (crash_length (keep B K t u) (later S P B (sync M) L2) 0)
      have HM0 : Hid ((sync M).length ≤ 60) := Lib.hid (by rw [sync_length]; exact HML.out)
      generalize later S P B (sync M) L2 = M1 at *
      generalize sync M = M0 at *
      obtain ⟨N, hN⟩ : ∃ N, N = M0.length := ⟨_, rfl⟩
      rw [← hN] at HM0
      have HN := Lib.hid hN
      have hN60 := HM0.out
      clear hN HM0
      have cc := crash_any HBB.out.dev (by omega) K t u HKK.out (by omega)
      obtain ⟨-, k0, k1, k2, -⟩ := P4.out.below HB.out
      clear HTR HBW HTK
      go_wp2_with (first
        | (go_at_call 18; (with_reducible refine cc.mono ?_); rintro e w9 ⟨rfl, hD9, hS9⟩; obtain ⟨hR9, hC9, hz9, hl9⟩ := HBB.out.d hS9; have hb9 := HB.out.trans (hS9.baseB HBB.out.zero HBB.out.le (by omega)); obtain ⟨-, l0, l1, l2, -⟩ := P4.out.below hb9; have cx := refCrash_any hR9 (by omega) K t u HKK.out (by omega); have HB9 := Lib.hid hb9; have HD9 := Lib.hid hD9; have HC9 := Lib.hid hC9; have HS9 := Lib.hid hS9; have HZ9 := Lib.hid (And.intro hz9 hl9); clear hD9 hS9 hR9 hC9 hz9 hl9 hb9 cc)
        | (go_at_call 19; (with_reducible refine cx.mono ?_); rintro e w10 ⟨rfl, v10, hR10, hS10⟩; have HC10 := Lib.hid (HC9.out.other hS10 (by omega) (by omega)); obtain ⟨A5, cu5, cr5⟩ := copied_row HC10.out; rw [← HN.out] at cr5; have HD10 := Lib.hid (HD9.out.other hS10 (by omega) (by omega)); have HB10 := Lib.hid (HB9.out.trans (hS10.baseB HZ9.out.1 HZ9.out.2 (by omega))); have HL10 : Hid (w4.heap.size ≤ w10.heap.size) := Lib.hid (Nat.le_trans HZ9.out.2 hS10.size); have HR10 := Lib.hid hR10; clear hR10 hS10 cx))
      clear k0 k1 k2 l0 l1 l2
      have HKP := Lib.hid (HKEPT.out HR10.out.ok)
      clear HKEPT HBB HB HD9 HC9 HS9 HZ9 HB9
      generalize crash (keep B K t u) 0 M1 = M2 at *
      go_loopw [16, 17, 18, 86] (fun _ _ _ i wr => ∃ j : Nat, j ≤ N ∧ i = .int .i64 j ∧ Hid (Below w10.heap.size w10 wr)) (fun _ _ _ i _ => N - (intOf i).toNat)
      case atStart => exact ⟨0, Nat.zero_le _, rfl, Lib.hid (Below.refl _ _)⟩
      case round =>
        obtain ⟨i, hi, rfl, HB⟩ := hrel
        by_cases hlt : i < N
        · have hiL : i < M0.length := by rw [← HN.out]; exact hlt
          obtain ⟨g, cu, A6, c6, f3, f0, f1, f2, f4, fb⟩ := copied_at HC10.out hiL
          rw [← HN.out, cr5] at f3
          injection f3 with f3
          injection f3 with f3 _ f5
          subst f3 f5
          obtain ⟨hlk, hin⟩ := HKP.out _ (List.getElem_mem hiL)
          obtain ⟨q, hq⟩ : ∃ q, q = M0[i] := ⟨_, rfl⟩
          rw [← hq] at f0 f1 f4 fb hlk hin
          have hgl := World.block_lt_of_cell? w10 _ f0
          have g0 := (HB.out.cell (p := ⟨g, i * 4, none⟩) hgl).trans f0
          have g1 := (HB.out.cell (p := ⟨g, i * 4 + 1, none⟩) hgl).trans f1
          have g2 := (HB.out.cell (p := ⟨g, i * 4 + 2, none⟩) hgl).trans f2
          have g3 := (HB.out.cell (p := ⟨g, i * 4 + 3, none⟩) hgl).trans f4
          have hw0 : W64 q.seg := WalkArith.wf_i64 (by have := HSP.out.s2; have := hin.s0; have := hin.s1; omega)
          have hw1 : W64 q.page := WalkArith.wf_i64 (by have := HSP.out.p2; have := hin.p0; have := hin.p1; omega)
          have hbx := below_new4 wr (.cells #[.int .i64 q.seg, .int .i64 q.page, .slice A6 B c6, .bool q.dirty] 53)
          have HBX := Lib.hid (HB.out.trans (hbx.mono HB.out.size))
          have BXN := Four.new wr (.int .i64 q.seg) (.int .i64 q.page) (.slice A6 B c6) (.bool q.dirty) 53
          have cr := read_in (HD10.out.below HBX.out) q.seg q.page hw0 hw1 ⟨hin.s0, hin.s1, hin.p0, hin.p1⟩
          have HLK := Lib.hid hlk
          have HW0 := Lib.hid hw0
          have HW1 := Lib.hid hw1
          have HFB := Lib.hid fb
          clear hlk hin hw0 hw1 hbx fb f0 f1 f2 f4 hq hiL
          go_wp2_with (first
            | (go_at_call 20; (with_reducible refine cr.mono ?_); rintro e w11 ⟨g7, rfl, hg7, hrow, hb11⟩; have HB11 := Lib.hid (HBX.out.trans (hb11.mono HBX.out.size)); have HROW := Lib.hid hrow; have HGL := Lib.hid hrow.lt; have BX11 := Lib.hid (BXN.below hb11); obtain ⟨-, k0, k1, k2, -⟩ := BXN.below hb11; have cu := used_any (HD10.out.below HB11.out) q.seg q.page HW0.out HW1.out; rw [HLK.out] at cu; clear cr hb11 hrow)
            | (go_at_call 21; (with_reducible refine cu.mono ?_); rintro e w12 ⟨rfl, hb12⟩; have HB12 := Lib.hid (HB11.out.trans (hb12.mono HB11.out.size)); obtain ⟨-, m0, m1, m2, -⟩ := BX11.out.below hb12; have hrow6 := (HROW.out.below hb12 HGL.out).bs (B := w12.heap.size) (Nat.lt_of_lt_of_le HGL.out hb12.size); rw [full_length] at hrow6; have cb6 := bytes_any (some ⟨g7, 0, none⟩) A6 B B B c6 w12.heap.size _ _ w12 hrow6 ((HFB.out.below HB12.out).mono HB12.out.size) (by have := HSP.out.b2; omega); rw [HLK.out, Option.getD_some, decide_eq_true rfl] at cb6; clear cu hb12 hrow6)
            | (go_at_call 22; (with_reducible refine cb6.mono ?_); rintro e w13 ⟨rfl, m7, rfl⟩; have HB13 := Lib.hid (below_drewN HB12.out m7); clear cb6))
          go_roundw
          case rel => exact ⟨i + 1, by omega, by go_num, HB13⟩
          case measure => simp [intOf]; omega
        · obtain rfl : i = N := by omega
          have cl := like_any (HD10.out.below HB.out) (HR10.out.below HB.out) (by have := HCL.out; omega)
          have HY : Hid (Below w.heap.size w wr) := Lib.hid ((HB4.out.trans (HB10.out.mono HB4.out.size)).trans (HB.out.mono (Nat.le_trans HB4.out.size HL10.out)))
          go_wp2_with (first
            | (go_at_call 12; (with_reducible refine cl.mono ?_); rintro e w11 ⟨rfl, hb11⟩; have cd := dirty_any ((HD10.out.below HB.out).below hb11); rw [HDC.out] at cd; have HZ := Lib.hid (HY.out.trans (hb11.mono HY.out.size)); clear cl hb11)
            | (go_at_call 23; (with_reducible refine cd.mono ?_); rintro e w12 ⟨rfl, rfl⟩; clear cd))
          go_ret
          exact ⟨rfl, HZ.out⟩
end Go.Proofs.Ytgipbamobpmbcaa
