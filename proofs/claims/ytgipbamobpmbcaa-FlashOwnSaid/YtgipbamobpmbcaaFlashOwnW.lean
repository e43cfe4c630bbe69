/-
  The walk of FlashOwn.
-/
import Derived.Test.YtgipbamobpmbcaaFlashOwnM
import Derived.Deep.CutRange
namespace Go.Proofs.Ytgipbamobpmbcaa
open Go.ChangeShapes Go.WideShapes Go.ChangeAt Go.RowKit Fl

set_option maxHeartbeats 16000000 in
set_option maxRecDepth 100000 in
theorem flashOwn_main (S P B : Nat) (A : Option Addr) (n c : Nat) (L : List Dd) (A2 : Option Addr) (n2 c2 : Nat) (l : List UInt8) (seg page : Int) (w : World) (hs : shpB S P B = true) (h : Ds w w.heap.size A n L) (hnc : n ≤ c) (hc : c ≤ maxLen) (hwf : ∀ d ∈ L, d.Wf)
    (h2 : Bs w w.heap.size A2 n2 l) (hf : fewB L = true) (hn2 : n2 ≤ 300) (hseg : W64 seg) (hpage : W64 page) :
    Calls Try.prog 5 #[.agg #[.int .i64 S, .int .i64 P, .int .i64 B], .slice A n c, .slice A2 n2 c2, .int .i64 seg, .int .i64 page] w (Yes w) := by
  obtain ⟨S', P', B', e1, e2, e3, hshp⟩ := shp_of hs
  obtain rfl : S = S' := by omega
  obtain rfl : P = P' := by omega
  obtain rfl : B = B' := by omega
  clear e1 e2 e3
  obtain ⟨i0, hi, hz, hsz, hby⟩ := info_parts u8_info
  have HI := Lib.hid hi
  have HZ := Lib.hid hz
  have HSZ := Lib.hid hsz
  have HBY := Lib.hid hby
  clear hi hz hsz hby
  have hb0 := below_new4 w (.cells #[.int .i64 S, .int .i64 P, .int .i64 B] 23)
  have t3 := Three.new w (.int .i64 S) (.int .i64 P) (.int .i64 B) 23
  have ca := awake_any (w.alloc (.cells #[.int .i64 S, .int .i64 P, .int .i64 B] 23))
  have q1 := devNil
  have n1 := fun W => read_nil seg page W
  have n2' := fun W => sync_nil W
  have n3 : ∀ W : World, Calls Try.prog 18 #[.pointer none, .agg #[.int .u64 0, .int .i64 0, .int .i64 0]] W fun e w' => e = .returned (.tuple #[]) ∧ Below W.heap.size W w' := fun W => crash_nil 0 0 0 W
  have n4 := fun W => write_nil seg page (.slice A2 n2 c2) W
  have n5 := fun W => erase_nil seg W
  have n6 := fun W => used_nil seg page W
  have n7 := fun W => dirty_nil W
  have n8 := fun W => copy_nil W
  have n9 := fun W => shape_nil W
  have HB0 := Lib.hid hb0
  have T0 := Lib.hid t3
  have HS := Lib.hid h
  have HBS := Lib.hid h2
  have HLL : Hid (l.length = n2) := Lib.hid h2.1
  have HL60 : Hid (L.length ≤ 60) := Lib.hid (fewB_all hf).2
  have HFW := Lib.hid (fun W (hb : Below w.heap.size w W) => few_any A n c L W (ds_mono (HS.out.below hb) hb.size) (Nat.le_trans hnc hc))
  rw [hf] at HFW
  have HWF := Lib.hid hwf
  have HF := Lib.hid hf
  have HSB := Lib.hid hs
  have HSP := Lib.hid hshp
  have HSEG := Lib.hid hseg
  have HPAGE := Lib.hid hpage
  have h300 : decide ((300 : Int) < n2) = false := decide_eq_false (by omega)
  clear h h2 hwf hf hs hshp hb0 t3 hseg hpage
  unfold Yes
  go_enter Try.func5, Try.ntmps5
  go_wp2_with (first
    | (go_at_call 6; (with_reducible refine ca.mono ?_); rintro e w1 ⟨rfl, hb⟩; have HB1 := Lib.hid hb; clear hb ca)
    | (go_at_call 20; (with_reducible refine (n1 _).mono ?_); rintro e w2 ⟨rfl, hb⟩; have HB2 := Lib.hid (HB1.out.trans (hb.mono HB1.out.size)); clear hb)
    | (go_at_call 13; (with_reducible refine (n2' _).mono ?_); rintro e w' ⟨rfl, rfl⟩)
    | (go_at_call 18; (with_reducible refine (n3 _).mono ?_); rintro e w3 ⟨rfl, hb⟩; have HB3 := Lib.hid (HB2.out.trans (hb.mono HB2.out.size)); clear hb)
    | (go_at_call 16; (with_reducible refine (n4 _).mono ?_); rintro e w4 ⟨rfl, hb⟩; have HB4 := Lib.hid (HB3.out.trans (hb.mono HB3.out.size)); clear hb)
    | (go_at_call 24; (with_reducible refine (n5 _).mono ?_); rintro e w5 ⟨rfl, hb⟩; have HB5 := Lib.hid (HB4.out.trans (hb.mono HB4.out.size)); clear hb)
    | (go_at_call 21; (with_reducible refine (n6 _).mono ?_); rintro e w6 ⟨rfl, hb⟩; have HB6 := Lib.hid (HB5.out.trans (hb.mono HB5.out.size)); clear hb)
    | (go_at_call 23; (with_reducible refine (n7 _).mono ?_); rintro e w' ⟨rfl, rfl⟩)
    | (go_at_call 25; (with_reducible refine (n8 _).mono ?_); rintro e w' ⟨rfl, rfl⟩)
    | (go_at_call 26; (with_reducible refine (n9 _).mono ?_); rintro e w7 ⟨rfl, hb⟩; have HB7 := Lib.hid (HB6.out.trans (hb.mono HB6.out.size)); have cf := HFW.out _ (HB0.out.trans (HB7.out.mono HB0.out.size)); clear hb)
    | (go_at_call 7; (with_reducible refine cf.mono ?_); rintro e w8 ⟨rfl, hb⟩; have HB8 := Lib.hid (HB7.out.trans (hb.mono HB7.out.size)); obtain ⟨-, k0, k1, k2, -⟩ := T0.out.below HB8.out; have csh := refShape_any S P B w8; rw [HSB.out] at csh; clear hb cf)
    | (go_at_call 8; (with_reducible refine csh.mono ?_); rintro e w9 ⟨rfl, hb⟩; have HB9 := Lib.hid (HB8.out.trans (hb.mono HB8.out.size)); obtain ⟨-, l0, l1, l2, -⟩ := T0.out.below HB9.out; have HBW9 := Lib.hid (HB0.out.trans (HB9.out.mono HB0.out.size)); have cm := made_any HSP.out A n c L (ds_mono (HS.out.below HBW9.out) HBW9.out.size) HF.out HWF.out; clear hb csh)
    | (go_at_call 11; (with_reducible refine cm.mono ?_); rintro e w10 ⟨db, mb, xb, v10, rfl, hbo, hb10⟩; have HB10 := Lib.hid hb10; have HBO := Lib.hid hbo; have cp := copy_any (k2 := 4) hbo.dev (by have h1 := deeds_len S P B HL60.out; omega) (by omega); clear hb10 cm hbo)
    | (go_at_call 25; (with_reducible refine cp.mono ?_); rintro e w11 ⟨cb, cm, v11, rfl, hD11, hS11, hb11⟩; have HO11 : Hid (Own3 w11 v11 w9.heap.size S P B db mb xb cb cm (deeds S P B L) (deeds S P B L)) := Lib.hid ⟨HBO.out.dev.other (hS11 2) (by omega) (by omega), HBO.out.rdv.other (hS11 1) (by omega) (by omega), hD11, (hS11 1).zero HBO.out.le HBO.out.zero, Nat.le_trans HBO.out.le (hS11 1).size⟩; have HB11 : Hid (Below w9.heap.size w9 w11) := Lib.hid (HB10.out.trans (hb11.mono HBO.out.le)); clear cp hD11 hS11 hb11)
    | (at_builtin; refine wpList_append_bytes (o := ⟨some 103, _, _, _, _, _⟩) rfl _ _ 41 rfl w11.heap.size 5 i0 Try.underlying41 HI.out HZ.out HSZ.out HBY.out _ 0 [] rfl (World.ownsRow_nil _ _ _ _) w.heap.size A2 n2 c2 l rfl ((HBS.out.below HBW9.out).below (HB11.out.mono HBW9.out.size)) (by omega) (Nat.le_refl _) ?_; intro x12 w12 HO12 HG12))
  have ho := HO12.out
  rw [Nat.zero_add, List.nil_append] at ho
  obtain ⟨A5, c5, rfl, hbs5, hc5⟩ := own_bs ho
  have hb12 : Below w11.heap.size w11 w12 := (Below.refl _ _).grown HG12.out (Nat.le_refl _) (fun _ e => (nomatch e))
  have hwr : 0 < n2 → ∃ g, A5 = some ⟨g, 0, none⟩ ∧ Wr w12 g n2 := fun h0 => by
    rcases ho.2 with ⟨_, h1⟩ | ⟨g, cap, cur, h1, -⟩
    · omega
    · injection h1 with h1 _ _
      subst h1
      exact ⟨g, rfl, Wr.own ho⟩
  have hno5 : A5 = none → c5 = 0 := fun e => by
    subst e
    rcases ho.2 with ⟨h1, _⟩ | ⟨_, _, _, h1, _⟩
    · injection h1
    · injection h1 with h1
      cases h1
  have hml : (deeds S P B L).length ≤ 60 := deeds_len S P B HL60.out
  obtain ⟨hO12, hM12, -⟩ := HO11.out.claim hb12 (A := A5) (n := n2) (c := c5) (fun g hg => ho.lt g hg) hwr
  have HB12 : Hid (Below w9.heap.size w9 w12) := Lib.hid (HB11.out.trans (hb12.mono HO11.out.le))
  generalize pl v11 (.slice A5 n2 c5) 5 = v12 at hO12 hM12
  have hsl : Sl w12 (.slice A5 n2 c5) l := by
    have hl := HLL.out
    subst hl
    exact ⟨A5, c5, rfl, hc5, hbs5, hno5⟩
  generalize deeds S P B L = M at *
  have cw := write_all hO12.dev (by omega) seg page HSEG.out HPAGE.out A5 n2 c5 l hsl (by omega)
  have HO12' := Lib.hid hO12
  have HM12 := Lib.hid hM12
  have HML := Lib.hid hml
  obtain ⟨wc, hwc⟩ : ∃ wc, wc = wcode S P B M seg page l.length := ⟨_, rfl⟩
  obtain ⟨M1, hM1⟩ : ∃ M1, M1 = wput S P B M seg page l := ⟨_, rfl⟩
  rw [← hwc, ← hM1] at cw
  have HWC := Lib.hid hwc
  have HM1 := Lib.hid hM1
  clear ho hb12 hwr hno5 hml hO12 hM12 hsl hwc hM1 HO12 HG12 HO11 HB11 HB10 HBO hbs5 hc5 HB1 HB2 HB3 HB4 HB5 HB6 HB7 HB8 k0 k1 k2 l0 l1 l2 n1 n2' n3 n4 n5 n6 n7 n8 n9 q1
  go_wp2_with (go_at_call 16; (with_reducible refine cw.mono ?_); rintro e w13 ⟨rfl, v13, hD13, hS13⟩; have HO13 := Lib.hid (HO12'.out.d hS13 hD13); have HM13 := Lib.hid (HM12.out.stp hS13 (by omega)); have HB13 := Lib.hid (HB12.out.trans (hS13.baseB HO12'.out.zero HO12'.out.le (by omega))); clear cw hD13 hS13)
  go_loopw [20, 111] (fun _ i wr => ∃ j : Nat, j ≤ n2 ∧ i = .int .i64 j ∧ Hid (Own3 wr v13 w9.heap.size S P B db mb xb cb cm M1 M) ∧ Hid (Mine wr v13 A5 n2) ∧ Hid (Below w9.heap.size w9 wr)) (fun _ i _ => n2 - (intOf i).toNat)
  case atStart => exact ⟨0, Nat.zero_le _, rfl, HO13, HM13, HB13⟩
  case round =>
    obtain ⟨j, hj, rfl, HO, HM, HB⟩ := hrel
    by_cases hlt : j < n2
    · obtain ⟨g, rfl, hvg, hw⟩ := HM.out (by omega)
      obtain ⟨⟨x, hx⟩, hfz⟩ := hw.at_ hlt
      have HP := Lib.hid (fun y => HO.out.poke hvg hw j y)
      clear hvg hw
      go_wp2
      go_roundw
      case rel => exact ⟨j + 1, by omega, by go_num, Lib.hid (HP.out _).1, Lib.hid (HP.out _).2.1, Lib.hid (HB.out.trans (HP.out _).2.2)⟩
      case measure => simp [intOf]; omega
    · obtain rfl : j = n2 := by omega
      have cr := read_gen HO.out.dev seg page HSEG.out HPAGE.out
      clear HO12' HM12 HB12 HO13 HM13 HB13
      go_wp2_with (go_at_call 20; (with_reducible refine cr.mono ?_); rintro e w14 ⟨A6, n6, c6, e6, rfl, hn6, hz6, hw6, hb14⟩; have HW6 := Lib.hid hw6; have HB14 := Lib.hid hb14; clear hw6 hb14 cr)
      obtain ⟨hO14, hM14, -⟩ := HO.out.claim HB14.out (A := A6) (n := n6) (c := c6) (fun g hg => by
          rcases Nat.eq_zero_or_pos n6 with h0 | h0
          · rw [hz6 h0] at hg; cases hg
          · obtain ⟨g', e, h1, h2⟩ := HW6.out h0
            subst e
            injection hg with hg
            have h3 := h2.lt
            dsimp only at hg
            omega) (fun h0 => by obtain ⟨g', e, _, h2⟩ := HW6.out h0; exact ⟨g', e, h2⟩)
      have HB14' : Hid (Below w9.heap.size w9 w14) := Lib.hid (HB.out.trans (HB14.out.mono HO.out.le))
      generalize pl v13 (.slice A6 n6 c6) 5 = v14 at hO14 hM14
      have HO14 := Lib.hid hO14
      have HM14 := Lib.hid hM14
      clear hO14 hM14 HW6 HB14 HB HM hz6 HO
      go_loopw [23, 130] (fun _ i wr => ∃ j : Nat, j ≤ n6 ∧ i = .int .i64 j ∧ Hid (Own3 wr v14 w9.heap.size S P B db mb xb cb cm M1 M) ∧ Hid (Mine wr v14 A6 n6) ∧ Hid (Below w9.heap.size w9 wr)) (fun _ i _ => n6 - (intOf i).toNat)
      case atStart => exact ⟨0, Nat.zero_le _, rfl, HO14, HM14, HB14'⟩
      case round =>
        obtain ⟨i, hi, rfl, HO, HM, HB⟩ := hrel
        by_cases hlt : i < n6
        · obtain ⟨g, rfl, hvg, hw⟩ := HM.out (by omega)
          obtain ⟨⟨x, hx⟩, hfz⟩ := hw.at_ hlt
          have HP := Lib.hid (fun y => HO.out.poke hvg hw i y)
          clear hvg hw
          go_wp2
          go_roundw
          case rel => exact ⟨i + 1, by omega, by go_num, Lib.hid (HP.out _).1, Lib.hid (HP.out _).2.1, Lib.hid (HB.out.trans (HP.out _).2.2)⟩
          case measure => simp [intOf]; omega
        · obtain rfl : i = n6 := by omega
          clear HO14 HM14 HB14'
          by_cases hwc : wc = 0
          · have hne : (wc != 0) = false := by simp [hwc]
            have hcode := HWC.out
            rw [hwc] at hcode
            have hM1 := HM1.out
            unfold wcode at hcode
            unfold wput at hM1
            by_cases hin : 0 ≤ seg ∧ seg < S ∧ 0 ≤ page ∧ page < P
            · rw [if_pos hin] at hcode hM1
              by_cases hlen : B < l.length
              · rw [if_pos hlen] at hcode; exact absurd hcode (by decide)
              · rw [if_neg hlen] at hcode hM1
                cases hlk : lk M seg page with
                | some r => rw [hlk] at hcode; simp at hcode
                | none =>
                  rw [hlk] at hM1
                  have hlk1 : lk M1 seg page = some l := by rw [hM1]; simp only [Option.isSome_none, Bool.false_eq_true, if_false]; rw [lk_put l hlk, if_pos ⟨rfl, rfl⟩]
                  have cr := read_in HO.out.dev seg page HSEG.out HPAGE.out hin
                  have HLK := Lib.hid hlk1
                  clear hcode hM1 hin hlen hlk hlk1 hwc
                  go_wp2_with (first
                    | (go_at_call 20; (with_reducible refine cr.mono ?_); rintro e w15 ⟨g7, rfl, hg7, hrow, hb15⟩; have HB15 := Lib.hid hb15; have HROW := Lib.hid hrow; have HGL := Lib.hid hrow.lt; have cl := like_any (HO.out.cpy.below hb15) (HO.out.rdv.below hb15) (by have := HML.out; omega); clear cr hb15 hrow)
                    | (go_at_call 12; (with_reducible refine cl.mono ?_); rintro e w16 ⟨rfl, hb16⟩; have HB16 := Lib.hid (HB15.out.trans (hb16.mono HB15.out.size)); have HROW2 := Lib.hid (HROW.out.below hb16 HGL.out); obtain ⟨u16, Q16, hh16, -⟩ := (HO.out.rdv.below HB16.out).four; have cfu := full_at hh16 A2 _ c2 l (((HBS.out.below HBW9.out).below ((HB.out.trans (HB16.out.mono HO.out.le)).mono HBW9.out.size)).mono (Nat.le_trans HBW9.out.size (Nat.le_trans HO.out.le HB16.out.size))) (by have := HSP.out.b1; omega) HSP.out.b2 (by omega); have HSZ16 := Lib.hid hb16.size; clear cl hb16 hh16)
                    | (go_at_call 27; (with_reducible refine cfu.mono ?_); rintro e w17 ⟨A8, c8, rfl, hc8, hbs8, -, -, hb17⟩; have HB17 := Lib.hid (HB16.out.trans (hb17.mono HB16.out.size)); have hrow6 := (HROW2.out.below hb17 (Nat.lt_of_lt_of_le HGL.out HSZ16.out)).bs (B := w17.heap.size) (Nat.lt_of_lt_of_le HGL.out (Nat.le_trans HSZ16.out hb17.size)); rw [full_length, HLK.out, Option.getD_some] at hrow6; have cb6 := bytes_any (some ⟨g7, 0, none⟩) A8 B B B c8 w17.heap.size _ _ w17 hrow6 hbs8 (by have := HSP.out.b2; omega); rw [decide_eq_true rfl] at cb6; clear cfu hb17 hbs8 hrow6)
                    | (go_at_call 22; (with_reducible refine cb6.mono ?_); rintro e w18 ⟨rfl, m8, rfl⟩; have HB18 := Lib.hid (below_drewN HB17.out m8); clear cb6))
                  go_ret
                  exact ⟨rfl, HBW9.out.trans ((HB.out.trans (HB18.out.mono HO.out.le)).mono HBW9.out.size)⟩
            · rw [if_neg hin] at hcode; exact absurd hcode (by decide)
          · have hne : (wc != 0) = true := by simpa using hwc
            have cr := read_gen HO.out.dev seg page HSEG.out HPAGE.out
            clear hwc
            go_wp2_with (first
              | (go_at_call 20; (with_reducible refine cr.mono ?_); rintro e w15 ⟨A7, n7, c7, e7, rfl, -, -, -, hb15⟩; have HB15 := Lib.hid hb15; have cl := like_any (HO.out.cpy.below hb15) (HO.out.rdv.below hb15) (by have := HML.out; omega); clear cr hb15)
              | (go_at_call 12; (with_reducible refine cl.mono ?_); rintro e w16 ⟨rfl, hb16⟩; have HB16 := Lib.hid (HB15.out.trans (hb16.mono HB15.out.size)); clear cl hb16))
            go_ret
            exact ⟨rfl, HBW9.out.trans ((HB.out.trans (HB16.out.mono HO.out.le)).mono HBW9.out.size)⟩
end Go.Proofs.Ytgipbamobpmbcaa
