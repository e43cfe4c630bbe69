/-
  segment.Append, Start: where a record has room and nothing is used.
-/
import Derived.Test.YtndbjdnfibpicaaRSegFits
import Derived.Test.YtndbjdnfibpicaaRFlashWrite
import Derived.Test.YtndbjdnfibpicaaRFramePut
import Derived.Test.YtndbjdnfibpicaaRFramePad
namespace Go.Proofs.YtndbjdnfibpicaaR
open Go.ChangeShapes Go.WideShapes Go.ChangeAt Go.RowKit Fl Lo
set_option maxRecDepth 100000

/-- what an append comes to -/
def AppendTo (k S P B db mb : Nat) (M : List Pg) (K : Nat) (w : World) (v : Nat → Nat) (e : Ending) (w' : World) : Prop :=
  e = .returned (.tuple #[.int .i64 K, .int .i64 0]) ∧ ∃ v', Dev w' v' k S P B db mb M ∧ Stp k w w' v v'
section
variable {k S P B db mb : Nat} {w w' : World} {v : Nat → Nat} {M : List Pg}
set_option maxHeartbeats 4000000 in
theorem segAppend_any (h : Dev w v k S P B db mb M) (hk : k ≠ 0) (s p : Int) (hs : W64 s) (hin : 0 ≤ s ∧ s < S) (hp0 : 0 ≤ p) (kind : UInt8) (seq : Nat) (hq : seq < 18446744073709551616) (A : Option Addr) (n c : Nat) (l : List UInt8) (Bd : Nat)
    (hd : Bs w Bd A n l) (hBd : Bd ≤ w.heap.size) (hn : n ≤ 4096) (hr : p + (Fm.pages n B : Int) ≤ (P : Int)) (hu : ∀ p2 : Int, p ≤ p2 → lk M s p2 = none) (hM : M.length ≤ 90000) :
    Calls Try.prog 70 #[.pointer (some ⟨db, 0, none⟩), .int .i64 s, .int .i64 p, .int .u64 seq, .int .u8 (kind.toNat : Int), .slice A n c] w (AppendTo k S P B db mb (app s p B (Fm.frame kind seq l) (Fm.pages n B) M) (Fm.pages n B) w v) := by
  have hb1 := h.shp.b1
  have hb2 := h.shp.b2
  have hp2 := h.shp.p2
  have hK1 := pages_pos n (by omega : 1 ≤ B)
  have hsh := h.shp
  have HD := Lib.hid h
  have HWS := Lib.hid hs
  have HU := Lib.hid hu
  have HIN := Lib.hid hin
  obtain ⟨fr, hfr⟩ : ∃ fr, fr = Fm.frame kind seq l := ⟨_, rfl⟩
  have HFR : Hid (Fm.frame kind seq l = fr) := Lib.hid hfr.symm
  obtain ⟨K, hK⟩ : ∃ K, K = Fm.pages n B := ⟨_, rfl⟩
  have HKE : Hid ((n + 16 + B - 1) / B = K) := Lib.hid hK.symm
  have cf := segFits_any hsh p n hp0 hn
  rw [decide_eq_true hr] at cf
  rw [← hfr, ← hK]
  rw [← hK] at hr hK1
  have HCF := Lib.hid cf
  have HBS := Lib.hid hd
  have cp := place_ok h s p hs (WalkArith.wf_i64 (by omega)) ⟨hin.1, hin.2, hp0, by omega⟩
  have hfb := shape_bytes S P B
  clear h hs hu hin hfr hK cf hd
  go_enter Try.func70, Try.ntmps70
  go_wp2_with (first
    | (go_at_call 62; (with_reducible refine cp.mono ?_); rintro e w1 ⟨rfl, hb1⟩; have HB1 := Lib.hid hb1; have cq := framePut_any kind seq A n c l Bd w1 (HBS.out.below (hb1.mono hBd)) (Nat.le_trans hBd hb1.size) hn hq; clear hb1 cp)
    | (go_at_call 76; (with_reducible refine cq.mono ?_); rintro e w2 ⟨A2, c2, rfl, hs2, hc2, hb2⟩; have HB2 := Lib.hid (HB1.out.trans (hb2.mono HB1.out.size)); rw [HFR.out] at hs2; have HS2 := Lib.hid hs2; have cs := shape_any (HD.out.below HB2.out); clear hb2 hs2 cq)
    | (go_at_call 21; (with_reducible refine cs.mono ?_); rintro e w3 ⟨rfl, hb3⟩; have HB23 := Lib.hid hb3; have HB3 := Lib.hid (HB2.out.trans (hb3.mono HB2.out.size)); have cf := HCF.out w3; clear hb3 cs)
    | (go_at_call 68; (with_reducible refine cf.mono ?_); rintro e w4 ⟨rfl, hb4⟩; have HB24 := Lib.hid (HB23.out.trans (hb4.mono HB23.out.size)); have HB4 := Lib.hid (HB3.out.trans (hb4.mono HB3.out.size)); have cs5 := shape_any (HD.out.below HB4.out); clear hb4 cf)
    | (go_at_call 21; (with_reducible refine cs5.mono ?_); rintro e w5 ⟨rfl, hb5⟩; have HB5 := Lib.hid (HB4.out.trans (hb5.mono HB4.out.size)); have HB25 := Lib.hid (HB24.out.trans (hb5.mono HB24.out.size)); have ca := pad_new A2 (n + 16) c2 fr w2.heap.size w5 B (HS2.out.below HB25.out) HB25.out.size hc2 (by omega) (by omega) (by omega); rw [HKE.out] at ca; clear hb5 cs5)
    | (go_at_call 77; (with_reducible refine ca.mono ?_); rintro e w6 ⟨A6, c6, rfl, hp6, hb6⟩; have HP6 := Lib.hid hp6; have HB6 := Lib.hid (HB5.out.trans (hb6.mono HB5.out.size)); have cu := unused_yes (HD.out.below HB6.out) s p K HWS.out hp0 (by omega) (by omega) (fun i _ => HU.out _ (by omega)); clear hb6 hp6 ca)
    | (go_at_call 63; (with_reducible refine cu.mono ?_); rintro e w7 ⟨rfl, hb7⟩; have HB67 := Lib.hid hb7; have HB7 := Lib.hid (HB6.out.trans (hb7.mono HB6.out.size)); clear hb7 cu))
  have HD7 := Lib.hid (HD.out.below HB7.out)
  have HS7 : Hid (Stp k w w7 v v) := Lib.hid (Stp.below HB7.out HD.out.fr)
  have HP7 : Hid (∀ i, i < K → ∃ b off g, A6 = some ⟨b, off, none⟩ ∧ v b ≠ k ∧ v g ≠ k ∧ w7.cell? ⟨b, off + i, none⟩ = some (.slice (some ⟨g, 0, none⟩) B B) ∧ Row 5 w7 g (Fm.page fr B i)) := Lib.hid (by
    intro i hi
    obtain ⟨b, off, g, e, h1, h2, h3, h4⟩ := HP6.out i hi
    have z1 : v b = 0 := HD.out.fr b (Nat.le_trans HB5.out.size h1)
    have z2 : v g = 0 := HD.out.fr g (Nat.le_trans HB5.out.size h2)
    have hbl := World.block_lt_of_cell? w6 _ h3
    exact ⟨b, off, g, e, by omega, by omega, (HB67.out.cell (p := ⟨b, off + i, none⟩) hbl).trans h3, h4.below HB67.out h4.lt⟩)
  clear HP6 HS2 HBS
  go_loopw [18, 19, 59] (fun _ _ i wr => ∃ (j : Nat) (v2 : Nat → Nat), j ≤ K ∧ i = .int .i64 j ∧ Hid (Dev wr v2 k S P B db mb (app s p B fr j M)) ∧ Hid (Stp k w7 wr v v2)) (fun _ _ i _ => K - (intOf i).toNat)
  case atStart => exact ⟨0, v, Nat.zero_le _, rfl, by rw [app_zero]; exact HD7, Lib.hid (Stp.refl HD7.out.fr)⟩
  case round =>
    obtain ⟨j, v2, hj, rfl, HDj, HSj⟩ := hrel
    by_cases hlt : j < K
    · obtain ⟨b, off, g, rfl, hvb, hvg, hc, hrow⟩ := HP7.out j hlt
      have hcr := HSj.out.cell hc hvb
      have hrowr : Row 5 wr g (Fm.page fr B j) := (HSj.out.block g hrow.lt hvg).trans hrow
      have w1 : IntKind.i64.wrap (p + (j : Int)) = p + (j : Int) := IntWalk.i64_in _ (by omega)
      have hbs := hrowr.bs hrowr.lt
      have HSL : Hid (Sl wr (.slice (some ⟨g, 0, none⟩) B B) (Fm.page fr B j)) := Lib.hid ⟨some ⟨g, 0, none⟩, B, by rw [Fm.page_length], by rw [Fm.page_length]; exact Nat.le_refl _, hbs, fun e => (nomatch e)⟩
      have hlk : lk (app s p B fr j M) s (p + (j : Int)) = none := by rw [lk_app (by omega)]; exact HU.out _ (by omega)
      have cw := write_ok HDj.out hk s (p + (j : Int)) HWS.out (WalkArith.wf_i64 (by omega)) (some ⟨g, 0, none⟩) B B _ HSL.out ⟨HIN.out.1, HIN.out.2, by omega, by omega⟩ (by rw [Fm.page_length]; exact Nat.le_refl _) hlk (by rw [app_length]; omega)
      clear hc hrow hrowr hbs hlk hvb hvg
      go_wp2_with (go_at_call 78; (with_reducible refine cw.mono ?_); rintro e w8 ⟨rfl, v3, hD8, hS8⟩; have HD8 := Lib.hid hD8; have HS8 := Lib.hid hS8; clear cw hD8 hS8)
      go_roundw
      case rel => exact ⟨j + 1, v3, by omega, by go_num, by rw [app_succ]; exact HD8, Lib.hid (HSj.out.trans HS8.out)⟩
      case measure => simp [intOf]; omega
    · obtain rfl : j = K := by omega
      go_wp2
      go_ret2
      exact ⟨rfl, v2, HDj.out, HS7.out.trans HSj.out⟩
theorem segStart_any (h : Dev w v k S P B db mb M) (hk : k ≠ 0) (s : Int) (hs : W64 s) (hin : 0 ≤ s ∧ s < S) (seq : Nat) (hq : seq < 18446744073709551616) (hu : ∀ p2 : Int, lk M s p2 = none) (hM : M.length ≤ 90000) :
    Calls Try.prog 69 #[.pointer (some ⟨db, 0, none⟩), .int .i64 s, .int .u64 seq] w fun e w' => e = .returned (.int .i64 0) ∧ ∃ v', Dev w' v' k S P B db mb (app s 0 B (Fm.frame 1 seq []) 1 M) ∧ Stp k w w' v v' := by
  have hb1 := h.shp.b1
  have hp1 := h.shp.p1
  have hK := pages_head hb1
  have ca : Calls Try.prog 70 #[.pointer (some ⟨db, 0, none⟩), .int .i64 s, .int .i64 0, .int .u64 seq, .int .u8 1, .slice none 0 0] w (AppendTo k S P B db mb (app s 0 B (Fm.frame 1 seq []) (Fm.pages 0 B) M) (Fm.pages 0 B) w v) :=
    segAppend_any h hk s 0 hs hin (by omega) 1 seq hq none 0 0 [] 0 (Bs.nil _ _ _) (Nat.zero_le _) (by omega) (by rw [hK]; omega) (fun p2 _ => hu p2) hM
  rw [hK] at ca
  clear h hu
  go_enter Try.func69, Try.ntmps69
  go_wp2_with (go_at_call 70; (with_reducible refine ca.mono ?_); rintro e w1 ⟨rfl, v1, hD, hS⟩; have HD := Lib.hid hD; have HS := Lib.hid hS; clear hD hS ca)
  go_ret
  exact ⟨rfl, v1, HD.out, HS.out⟩
end
end Go.Proofs.YtndbjdnfibpicaaR
