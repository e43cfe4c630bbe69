/-
  The walk of CrashWithin.
-/
import Derived.Test.YtgnncbbfbhipaaaCrashWithinP
import Derived.Test.YtgnncbbfbhipaaaCrashKeeps
import Derived.Test.YtgnncbbfbhipaaaCrashAlike
namespace Go.Proofs.Ytgnncbbfbhipaaa
open Go.ChangeShapes Go.WideShapes Go.ChangeAt Go.RowKit Fl
set_option maxRecDepth 100000

set_option maxHeartbeats 16000000 in
set_option maxRecDepth 100000 in
theorem crashWithin_main (S P B : Nat) (K : Nat) (t u : Int) (A : Option Addr) (n c : Nat) (L : List Dd) (A2 : Option Addr) (n2 c2 : Nat) (L2 : List Dd) (w : World) (hs : shpB S P B = true) (h : Ds w w.heap.size A n L) (hnc : n ≤ c) (hc : c ≤ maxLen) (hwf : ∀ d ∈ L, d.Wf)
    (h2 : Ds w w.heap.size A2 n2 L2) (hnc2 : n2 ≤ c2) (hc2 : c2 ≤ maxLen) (hwf2 : ∀ d ∈ L2, d.Wf) (hK : K < 18446744073709551616) (hf : fewB L = true) (hf2 : fewB L2 = true) :
    Calls Try.prog 5 #[.agg #[.int .i64 S, .int .i64 P, .int .i64 B], .slice A n c, .agg #[.int .u64 K, .int .i64 t, .int .i64 u], .slice A2 n2 c2] w (Yes w) := by
  obtain ⟨S', P', B', e1, e2, e3, hshp⟩ := shp_of hs
  obtain rfl : S = S' := by omega
  obtain rfl : P = P' := by omega
  obtain rfl : B = B' := by omega
  clear e1 e2 e3
  have hb0 : Below w.heap.size w ((w.alloc (.cells #[.int .i64 S, .int .i64 P, .int .i64 B] 23)).alloc (.cells #[.int .u64 K, .int .i64 t, .int .i64 u] 27)) := (below_new4 w _).alloc (by simp) _
  have t3 := (Three.new w (.int .i64 S) (.int .i64 P) (.int .i64 B) 23).alloc (.cells #[.int .u64 K, .int .i64 t, .int .i64 u] 27)
  have p3 := Three.new (w.alloc (.cells #[.int .i64 S, .int .i64 P, .int .i64 B] 23)) (.int .u64 K) (.int .i64 t) (.int .i64 u) 27
  have e0 : (w.alloc (.cells #[.int .i64 S, .int .i64 P, .int .i64 B] 23)).heap.size = w.heap.size + 1 := by simp
  rw [e0] at p3
  clear e0
  have ca := awake12 ((w.alloc (.cells #[.int .i64 S, .int .i64 P, .int .i64 B] 23)).alloc (.cells #[.int .u64 K, .int .i64 t, .int .i64 u] 27))
  have HB0 := Lib.hid hb0
  have HS := Lib.hid h
  have HS2 := Lib.hid h2
  have HL60 : Hid (L.length ≤ 60) := Lib.hid (fewB_all hf).2
  have HL602 : Hid (L2.length ≤ 60) := Lib.hid (fewB_all hf2).2
  have HFW := Lib.hid (fun W (hb : Below w.heap.size w W) => few_any A n c L W (ds_mono (HS.out.below hb) hb.size) (Nat.le_trans hnc hc))
  have HFW2 := Lib.hid (fun W (hb : Below w.heap.size w W) => few_any A2 n2 c2 L2 W (ds_mono (HS2.out.below hb) hb.size) (Nat.le_trans hnc2 hc2))
  rw [hf] at HFW
  rw [hf2] at HFW2
  have HWF := Lib.hid hwf
  have HWF2 := Lib.hid hwf2
  have HF := Lib.hid hf
  have HF2 := Lib.hid hf2
  have HSB := Lib.hid hs
  have HSP := Lib.hid hshp
  have HKK := Lib.hid hK
  clear h h2 hwf hwf2 hf hf2 hs hshp hb0 hK
  unfold Yes
  obtain ⟨M, hM⟩ : ∃ M, M = deeds S P B L := ⟨_, rfl⟩
  obtain ⟨N, hN⟩ : ∃ N, N = deeds S P B L2 := ⟨_, rfl⟩
  obtain ⟨a, ha⟩ : ∃ a, a = withinB B M N := ⟨_, rfl⟩
  obtain ⟨b, hb⟩ : ∃ b, b = withinB B N M := ⟨_, rfl⟩
  have HM := Lib.hid hM
  have HN := Lib.hid hN
  have HA := Lib.hid ha
  have HB := Lib.hid hb
  clear hM hN ha hb
  cases a
  case' true => cases b
  all_goals
    go_enter Try.func5, Try.ntmps5
    go_wp2_with (first
    | (go_at_call 6; (with_reducible refine ca.mono ?_); rintro e w1 ⟨rfl, hb1⟩; have HB1 := Lib.hid (HB0.out.trans (hb1.mono HB0.out.size)); have t31 := t3.below hb1; have p31 := p3.below hb1; have cf := HFW.out _ HB1.out; clear hb1 t3 p3 ca)
    | (go_at_call 7; (with_reducible refine cf.mono ?_); rintro e w2 ⟨rfl, hb2⟩; have HB2 := Lib.hid (HB1.out.trans (hb2.mono HB1.out.size)); have t32 := t31.below hb2; have p32 := p31.below hb2; have cf2 := HFW2.out _ HB2.out; clear hb2 t31 p31 cf)
    | (go_at_call 7; (with_reducible refine cf2.mono ?_); rintro e w3 ⟨rfl, hb3⟩; have HB3 := Lib.hid (HB2.out.trans (hb3.mono HB2.out.size)); have T3 := Lib.hid (t32.below hb3); have P3 := Lib.hid (p32.below hb3); obtain ⟨-, k0, k1, k2, -⟩ := t32.below hb3; have csh := refShape_any S P B w3; rw [HSB.out] at csh; clear hb3 t32 p32 cf2)
    | (go_at_call 8; (with_reducible refine csh.mono ?_); rintro e w4 ⟨rfl, hb4⟩; have HB4 := Lib.hid (HB3.out.trans (hb4.mono HB3.out.size)); have T4 := Lib.hid (T3.out.below hb4); have P4 := Lib.hid (P3.out.below hb4); obtain ⟨-, l0, l1, l2, -⟩ := T3.out.below hb4; have cm := made_any HSP.out A n c L (ds_mono (HS.out.below HB4.out) HB4.out.size) HF.out HWF.out; clear hb4 csh)
    | (go_at_call 9; (with_reducible refine cm.mono ?_); rintro e w5 ⟨db, mb, xb, v5, rfl, hbo, hb5⟩; have HB5 := Lib.hid (HB4.out.trans (hb5.mono HB4.out.size)); have P5 := Lib.hid (P4.out.below hb5); obtain ⟨-, m0, m1, m2, -⟩ := T4.out.below hb5; have HBO5 := Lib.hid hbo; have cm2 := made_any HSP.out A2 n2 c2 L2 (ds_mono (HS2.out.below HB5.out) HB5.out.size) HF2.out HWF2.out; clear hb5 cm hbo)
    | (go_at_call 9; (with_reducible refine cm2.mono ?_); rintro e w6 ⟨eb, me, yb, v6, rfl, hbo, hb6⟩; have HB7 := Lib.hid (HB5.out.trans ((hb6.alloc hb6.size (.cells #[.int .u64 18446744073709551615, .int .i64 (-1), .int .i64 0] 27)).mono HB5.out.size)); have hbx := below_new4 w6 (.cells #[.int .u64 18446744073709551615, .int .i64 (-1), .int .i64 0] 27); have HD7 := Lib.hid ((HBO5.out.dev.below hb6).below hbx); have HX7 := Lib.hid ((HBO5.out.rdv.below hb6).below hbx); have HE7 := Lib.hid (hbo.dev.below hbx); have HY7 := Lib.hid (hbo.rdv.below hbx); have Q7 := Lib.hid (Three.new w6 (.int .u64 18446744073709551615) (.int .i64 (-1)) (.int .i64 0) 27); have HBr := Lib.hid (Below.refl (w6.alloc (.cells #[.int .u64 18446744073709551615, .int .i64 (-1), .int .i64 0] 27)).heap.size (w6.alloc (.cells #[.int .u64 18446744073709551615, .int .i64 (-1), .int .i64 0] 27))); obtain ⟨-, n0, n1, n2, -⟩ := (P5.out.below hb6).below hbx; have HML : Hid ((deeds S P B L).length ≤ 60) := Lib.hid (deeds_len S P B HL60.out); have HNL : Hid ((deeds S P B L2).length ≤ 60) := Lib.hid (deeds_len S P B HL602.out); rw [← HM.out] at HD7 HX7 HML; rw [← HN.out] at HE7 HY7 HNL; have HDI : Hid (decide ((64 : Int) < ((dirt M).length : Nat)) = false) := Lib.hid (decide_eq_false (by have h1 := dirt_length M; have := HML.out; omega)); have caf := after_any HD7.out (by omega) K t u HKK.out (by have := HML.out; omega); clear hb6 cm2 hbo hbx)
    | (go_at_call 10; (with_reducible refine caf.mono ?_); rintro e w8 ⟨c1, m1, x1, rfl, hd8, hb8⟩; replace HBr := Lib.hid (HBr.out.trans (hb8.mono HBr.out.size)); have cw1 := within_prog hd8 (HD7.out.below HBr.out); rw [crash_within HD7.out.ok (keep B K t u)] at cw1; clear hd8 hb8 caf)
    | (go_at_call 18; (with_reducible refine cw1.mono ?_); rintro e w9 ⟨rfl, hb9⟩; replace HBr := Lib.hid (HBr.out.trans (hb9.mono HBr.out.size)); have cdi := dirty_any (HD7.out.below HBr.out); clear hb9 cw1)
    | (go_at_call 24; (with_reducible refine cdi.mono ?_); rintro e w10 ⟨rfl, rfl⟩; have hdi := HDI.out; obtain ⟨-, r0, r1, r2, -⟩ := Q7.out.below HBr.out; have caf2 : Calls Try.prog 10 #[.pointer (some ⟨db, 0, none⟩), .agg #[.int .u64 18446744073709551615, .int .i64 (-1), .int .i64 0]] _ (AfterTo S P B 18446744073709551615 (-1) 0 M _) := after_any (HD7.out.below HBr.out) (by omega) 18446744073709551615 (-1) 0 (by omega) (by have := HML.out; omega); clear cdi)
    | (go_at_call 10; (with_reducible refine caf2.mono ?_); rintro e w11 ⟨c2, m2, x2, rfl, hd11, hb11⟩; replace HBr := Lib.hid (HBr.out.trans (hb11.mono HBr.out.size)); have cs1 := same_prog hd11 (HD7.out.below HBr.out); rw [all_same HD7.out.ok (by have := HSP.out.b1; omega) (by have h1 := dirt_length M; have := HML.out; omega)] at cs1; clear hd11 hb11 caf2)
    | (go_at_call 19; (with_reducible refine cs1.mono ?_); rintro e w12 ⟨rfl, hb12⟩; replace HBr := Lib.hid (HBr.out.trans (hb12.mono HBr.out.size)); have cw2 := within_prog (HD7.out.below HBr.out) (HE7.out.below HBr.out); rw [← HA.out] at cw2; clear hb12 cs1)
    | (go_at_call 18; (with_reducible refine cw2.mono ?_); rintro e w13 ⟨rfl, hb13⟩; replace HBr := Lib.hid (HBr.out.trans (hb13.mono HBr.out.size)); have cl1 := within_any (HX7.out.below HBr.out) (HY7.out.below HBr.out) (by have := HML.out; omega) (by have := HNL.out; omega); rw [← HA.out] at cl1; clear hb13 cw2)
    | (go_at_call 20; (with_reducible refine cl1.mono ?_); rintro e w14 ⟨rfl, hb14⟩; replace HBr := Lib.hid (HBr.out.trans (hb14.mono HBr.out.size)); have cs2 := same_prog (HD7.out.below HBr.out) (HE7.out.below HBr.out); rw [← HA.out, ← HB.out] at cs2; clear hb14 cl1)
    | (go_at_call 19; (with_reducible refine cs2.mono ?_); rintro e w15 ⟨rfl, hb15⟩; replace HBr := Lib.hid (HBr.out.trans (hb15.mono HBr.out.size)); have cl2 := within_any (HX7.out.below HBr.out) (HY7.out.below HBr.out) (by have := HML.out; omega) (by have := HNL.out; omega); rw [← HA.out] at cl2; clear hb15 cs2)
    | (go_at_call 20; (with_reducible refine cl2.mono ?_); rintro e w16 ⟨rfl, hb16⟩; replace HBr := Lib.hid (HBr.out.trans (hb16.mono HBr.out.size)); have cl3 := within_any (HY7.out.below HBr.out) (HX7.out.below HBr.out) (by have := HNL.out; omega) (by have := HML.out; omega); rw [← HB.out] at cl3; clear hb16 cl2)
    | (go_at_call 20; (with_reducible refine cl3.mono ?_); rintro e w17 ⟨rfl, hb17⟩; replace HBr := Lib.hid (HBr.out.trans (hb17.mono HBr.out.size)); have cal := alike_any (HX7.out.below HBr.out) (HY7.out.below HBr.out) (by have := HML.out; omega) (by have := HNL.out; omega); (try rw [both_alike HD7.out.ok.ap HE7.out.ok.ap HA.out.symm HB.out.symm] at cal); clear hb17 cl3)
    | (go_at_call 25; (with_reducible refine cal.mono ?_); rintro e w18 ⟨rfl, hb18⟩; replace HBr := Lib.hid (HBr.out.trans (hb18.mono HBr.out.size)); clear hb18 cal)
    | (go_at_call 19; (with_reducible refine (same_nil _).mono ?_); rintro e w19 ⟨rfl, hb19⟩; replace HBr := Lib.hid (HBr.out.trans (hb19.mono HBr.out.size)); clear hb19))
    go_ret
    exact ⟨rfl, HB7.out.trans (HBr.out.mono HB7.out.size)⟩
end Go.Proofs.Ytgnncbbfbhipaaa
