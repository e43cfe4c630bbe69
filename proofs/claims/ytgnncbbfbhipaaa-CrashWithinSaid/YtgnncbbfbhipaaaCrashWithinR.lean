/-
  CrashWithin: all ways.
-/
import Derived.Test.YtgnncbbfbhipaaaCrashWithinW
namespace Go.Proofs.Ytgnncbbfbhipaaa
open Go.ChangeShapes Go.WideShapes Go.ChangeAt Go.RowKit Fl
set_option maxRecDepth 100000

set_option maxHeartbeats 4000000 in
set_option maxRecDepth 100000 in
theorem crashWithin_walk (s p b : Int) (A : Option Addr) (n c : Nat) (L : List Dd) (K : Nat) (t u : Int) (A2 : Option Addr) (n2 c2 : Nat) (L2 : List Dd) (w : World) (h : Ds w w.heap.size A n L) (hnc : n ≤ c) (hc : c ≤ maxLen) (hwf : ∀ d ∈ L, d.Wf)
    (hK : K < 18446744073709551616) (h2 : Ds w w.heap.size A2 n2 L2) (hnc2 : n2 ≤ c2) (hc2 : c2 ≤ maxLen) (hwf2 : ∀ d ∈ L2, d.Wf) :
    Calls Try.prog 5 #[.agg #[.int .i64 s, .int .i64 p, .int .i64 b], .slice A n c, .agg #[.int .u64 K, .int .i64 t, .int .i64 u], .slice A2 n2 c2] w (Yes w) := by
  by_cases hall : fewB L = true ∧ fewB L2 = true ∧ shpB s p b = true
  · obtain ⟨hf, hf2, hs⟩ := hall
    obtain ⟨S, P, B, rfl, rfl, rfl, hshp⟩ := shp_of hs
    exact crashWithin_main S P B K t u A n c L A2 n2 c2 L2 w hs h hnc hc hwf h2 hnc2 hc2 hwf2 hK hf hf2
  have hb0 : Below w.heap.size w ((w.alloc (.cells #[.int .i64 s, .int .i64 p, .int .i64 b] 23)).alloc (.cells #[.int .u64 K, .int .i64 t, .int .i64 u] 27)) := (below_new4 w _).alloc (by simp) _
  have t3 := (Three.new w (.int .i64 s) (.int .i64 p) (.int .i64 b) 23).alloc (.cells #[.int .u64 K, .int .i64 t, .int .i64 u] 27)
  have ca := awake12 ((w.alloc (.cells #[.int .i64 s, .int .i64 p, .int .i64 b] 23)).alloc (.cells #[.int .u64 K, .int .i64 t, .int .i64 u] 27))
  have HB0 := Lib.hid hb0
  have HS := Lib.hid h
  have HS2 := Lib.hid h2
  have HFW := Lib.hid (fun W (hb : Below w.heap.size w W) => few_any A n c L W (ds_mono (HS.out.below hb) hb.size) (Nat.le_trans hnc hc))
  have HFW2 := Lib.hid (fun W (hb : Below w.heap.size w W) => few_any A2 n2 c2 L2 W (ds_mono (HS2.out.below hb) hb.size) (Nat.le_trans hnc2 hc2))
  clear h h2 hb0 hwf hwf2
  unfold Yes
  cases hf : fewB L with
  | false =>
    rw [hf] at HFW
    clear hall hf
    go_enter Try.func5, Try.ntmps5
    go_wp2_with (first
      | (go_at_call 6; (with_reducible refine ca.mono ?_); rintro e w1 ⟨rfl, hb1⟩; have HB1 := Lib.hid (HB0.out.trans (hb1.mono HB0.out.size)); have cf := HFW.out _ HB1.out; clear hb1 t3 ca)
      | (go_at_call 7; (with_reducible refine cf.mono ?_); rintro e w2 ⟨rfl, hb2⟩; have HB2 := Lib.hid (HB1.out.trans (hb2.mono HB1.out.size)); clear hb2 cf))
    go_ret
    exact ⟨rfl, HB2.out⟩
  | true =>
    rw [hf] at HFW
    cases hf2 : fewB L2 with
    | false =>
      rw [hf2] at HFW2
      clear hall hf hf2
      go_enter Try.func5, Try.ntmps5
      go_wp2_with (first
        | (go_at_call 6; (with_reducible refine ca.mono ?_); rintro e w1 ⟨rfl, hb1⟩; have HB1 := Lib.hid (HB0.out.trans (hb1.mono HB0.out.size)); have cf := HFW.out _ HB1.out; clear hb1 t3 ca)
        | (go_at_call 7; (with_reducible refine cf.mono ?_); rintro e w2 ⟨rfl, hb2⟩; have HB2 := Lib.hid (HB1.out.trans (hb2.mono HB1.out.size)); have cf2 := HFW2.out _ HB2.out; clear hb2 cf)
        | (go_at_call 7; (with_reducible refine cf2.mono ?_); rintro e w3 ⟨rfl, hb3⟩; have HB3 := Lib.hid (HB2.out.trans (hb3.mono HB2.out.size)); clear hb3 cf2))
      go_ret
      exact ⟨rfl, HB3.out⟩
    | true =>
      rw [hf2] at HFW2
      have hs : shpB s p b = false := by
        cases hs : shpB s p b
        · rfl
        · exact absurd ⟨hf, hf2, hs⟩ hall
      have HSB := Lib.hid hs
      clear hall hf hf2 hs
      go_enter Try.func5, Try.ntmps5
      go_wp2_with (first
        | (go_at_call 6; (with_reducible refine ca.mono ?_); rintro e w1 ⟨rfl, hb1⟩; have HB1 := Lib.hid (HB0.out.trans (hb1.mono HB0.out.size)); have t31 := t3.below hb1; have cf := HFW.out _ HB1.out; clear hb1 t3 ca)
        | (go_at_call 7; (with_reducible refine cf.mono ?_); rintro e w2 ⟨rfl, hb2⟩; have HB2 := Lib.hid (HB1.out.trans (hb2.mono HB1.out.size)); have t32 := t31.below hb2; have cf2 := HFW2.out _ HB2.out; clear hb2 t31 cf)
        | (go_at_call 7; (with_reducible refine cf2.mono ?_); rintro e w3 ⟨rfl, hb3⟩; have HB3 := Lib.hid (HB2.out.trans (hb3.mono HB2.out.size)); obtain ⟨-, k0, k1, k2, -⟩ := t32.below hb3; have csh := refShape_any s p b w3; rw [HSB.out] at csh; clear hb3 t32 cf2)
        | (go_at_call 8; (with_reducible refine csh.mono ?_); rintro e w4 ⟨rfl, hb4⟩; have HB4 := Lib.hid (HB3.out.trans (hb4.mono HB3.out.size)); clear hb4 csh))
      go_ret
      exact ⟨rfl, HB4.out⟩
end Go.Proofs.Ytgnncbbfbhipaaa
