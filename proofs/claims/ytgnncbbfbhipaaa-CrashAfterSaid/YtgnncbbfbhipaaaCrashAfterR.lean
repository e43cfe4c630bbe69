/-
  CrashAfter: all ways.
-/
import Derived.Test.YtgnncbbfbhipaaaCrashAfterW
namespace Go.Proofs.Ytgnncbbfbhipaaa
open Go.ChangeShapes Go.WideShapes Go.ChangeAt Go.RowKit Fl
set_option maxRecDepth 100000

set_option maxHeartbeats 4000000 in
set_option maxRecDepth 100000 in
theorem crashAfter_walk (s p b : Int) (A : Option Addr) (n c : Nat) (L : List Dd) (K : Nat) (t u : Int) (w : World) (h : Ds w w.heap.size A n L) (hnc : n ≤ c) (hc : c ≤ maxLen) (hwf : ∀ d ∈ L, d.Wf)
    (hK : K < 18446744073709551616) :
    Calls Try.prog 3 #[.agg #[.int .i64 s, .int .i64 p, .int .i64 b], .slice A n c, .agg #[.int .u64 K, .int .i64 t, .int .i64 u]] w (Yes w) := by
  by_cases hall : fewB L = true ∧ shpB s p b = true
  · obtain ⟨hf, hs⟩ := hall
    obtain ⟨S, P, B, rfl, rfl, rfl, hshp⟩ := shp_of hs
    exact crashAfter_main S P B K t u A n c L w hs h hnc hc hwf hK hf
  have hb0 : Below w.heap.size w ((w.alloc (.cells #[.int .i64 s, .int .i64 p, .int .i64 b] 23)).alloc (.cells #[.int .u64 K, .int .i64 t, .int .i64 u] 27)) := (below_new4 w _).alloc (by simp) _
  have t3 := (Three.new w (.int .i64 s) (.int .i64 p) (.int .i64 b) 23).alloc (.cells #[.int .u64 K, .int .i64 t, .int .i64 u] 27)
  have ca := awake12 ((w.alloc (.cells #[.int .i64 s, .int .i64 p, .int .i64 b] 23)).alloc (.cells #[.int .u64 K, .int .i64 t, .int .i64 u] 27))
  have HB0 := Lib.hid hb0
  have HS := Lib.hid h
  have HFW := Lib.hid (fun W (hb : Below w.heap.size w W) => few_any A n c L W (ds_mono (HS.out.below hb) hb.size) (Nat.le_trans hnc hc))
  clear h hb0 hwf
  unfold Yes
  cases hf : fewB L with
  | false =>
    rw [hf] at HFW
    clear hall hf
    go_enter Try.func3, Try.ntmps3
    go_wp2_with (first
      | (go_at_call 6; (with_reducible refine ca.mono ?_); rintro e w1 ⟨rfl, hb1⟩; have HB1 := Lib.hid (HB0.out.trans (hb1.mono HB0.out.size)); have cf := HFW.out _ HB1.out; clear hb1 t3 ca)
      | (go_at_call 7; (with_reducible refine cf.mono ?_); rintro e w2 ⟨rfl, hb2⟩; have HB2 := Lib.hid (HB1.out.trans (hb2.mono HB1.out.size)); clear hb2 cf))
    go_ret
    exact ⟨rfl, HB2.out⟩
  | true =>
    rw [hf] at HFW
    have hs : shpB s p b = false := by
      cases hs : shpB s p b
      · rfl
      · exact absurd ⟨hf, hs⟩ hall
    have HSB := Lib.hid hs
    clear hall hf hs
    go_enter Try.func3, Try.ntmps3
    go_wp2_with (first
      | (go_at_call 6; (with_reducible refine ca.mono ?_); rintro e w1 ⟨rfl, hb1⟩; have HB1 := Lib.hid (HB0.out.trans (hb1.mono HB0.out.size)); have t31 := t3.below hb1; have cf := HFW.out _ HB1.out; clear hb1 t3 ca)
      | (go_at_call 7; (with_reducible refine cf.mono ?_); rintro e w2 ⟨rfl, hb2⟩; have HB2 := Lib.hid (HB1.out.trans (hb2.mono HB1.out.size)); obtain ⟨-, k0, k1, k2, -⟩ := t31.below hb2; have csh := refShape_any s p b w2; rw [HSB.out] at csh; clear hb2 t31 cf)
      | (go_at_call 8; (with_reducible refine csh.mono ?_); rintro e w4 ⟨rfl, hb4⟩; have HB4 := Lib.hid (HB2.out.trans (hb4.mono HB2.out.size)); clear hb4 csh))
    go_ret
    exact ⟨rfl, HB4.out⟩
end Go.Proofs.Ytgnncbbfbhipaaa
