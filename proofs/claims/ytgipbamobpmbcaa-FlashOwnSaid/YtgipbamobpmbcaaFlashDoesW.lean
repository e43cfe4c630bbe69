/-
  The walk of FlashDoes.
-/
import Derived.Test.YtgipbamobpmbcaaFlashMade
import Derived.Test.YtgipbamobpmbcaaFlashLike
namespace Go.Proofs.Ytgipbamobpmbcaa
open Go.ChangeShapes Go.WideShapes Go.ChangeAt Go.RowKit Fl

/-- the truth, and nothing that was there has turned -/
def Yes (w : World) (e : Ending) (w' : World) : Prop := e = .returned (.bool true) ∧ Below w.heap.size w w'
theorem shp_of {s p b : Int} (h : shpB s p b = true) : ∃ S P B : Nat, s = S ∧ p = P ∧ b = B ∧ Shp S P B := by
  unfold shpB at h
  simp only [Bool.and_eq_true, decide_eq_true_eq] at h
  exact ⟨s.toNat, p.toNat, b.toNat, by omega, by omega, by omega, ⟨by omega, by omega, by omega, by omega, by omega, by omega⟩⟩
theorem ds_mono {w : World} {B B' n : Nat} {A : Option Addr} {L : List Dd} (h : Ds w B A n L) (hB : B ≤ B') : Ds w B' A n L :=
  ⟨h.1, fun h0 => by
    obtain ⟨b9, off, e, hlt, hx⟩ := h.2 h0
    exact ⟨b9, off, e, Nat.lt_of_lt_of_le hlt hB, fun j hj => by
      obtain ⟨x0, x1, x2, ⟨A3, c3, x3, y1, y2, y3⟩, x4, x5, x6⟩ := hx j hj
      exact ⟨x0, x1, x2, ⟨A3, c3, x3, y1, y2.mono hB, y3⟩, x4, x5, x6⟩⟩⟩
theorem deeds_len (S P B : Nat) {L : List Dd} (h : L.length ≤ 60) : (deeds S P B L).length ≤ 60 := by
  have := deeds_length S P B L []
  simp only [List.length_nil] at this
  unfold deeds
  omega
set_option maxHeartbeats 4000000 in
theorem flashDoes_walk (s p b : Int) (A : Option Addr) (n c : Nat) (L : List Dd) (w : World) (h : Ds w w.heap.size A n L) (hnc : n ≤ c) (hc : c ≤ maxLen) (hwf : ∀ d ∈ L, d.Wf) :
    Calls Try.prog 3 #[.agg #[.int .i64 s, .int .i64 p, .int .i64 b], .slice A n c] w (Yes w) := by
  have hb0 := below_new4 w (.cells #[.int .i64 s, .int .i64 p, .int .i64 b] 23)
  have t3 := Three.new w (.int .i64 s) (.int .i64 p) (.int .i64 b) 23
  have ca := awake_any (w.alloc (.cells #[.int .i64 s, .int .i64 p, .int .i64 b] 23))
  have HS := Lib.hid h
  have HFEW := fun W (hb : Below w.heap.size w W) => few_any A n c L W (ds_mono (HS.out.below hb) hb.size) (Nat.le_trans hnc hc)
  have HFW := Lib.hid HFEW
  have HWF := Lib.hid hwf
  clear h hwf HFEW
  unfold Yes
  cases hf : fewB L with
  | false =>
    rw [hf] at HFW
    go_enter Try.func3, Try.ntmps3
    go_wp2_with (first
      | (go_at_call 6; (with_reducible refine ca.mono ?_); rintro e w1 ⟨rfl, hb1⟩; have HB1 := Lib.hid (hb0.trans (hb1.mono hb0.size)); have cf := HFW.out _ HB1.out)
      | (go_at_call 7; (with_reducible refine cf.mono ?_); rintro e w2 ⟨rfl, hb2⟩; have HB2 := Lib.hid (HB1.out.trans (hb2.mono HB1.out.size))))
    go_ret
    exact ⟨rfl, HB2.out⟩
  | true =>
    rw [hf] at HFW
    have HF := Lib.hid hf
    clear hf
    cases hs : shpB s p b with
    | false =>
      have HSB := Lib.hid hs
      clear hs
      have q2 := devNil2
      go_enter Try.func3, Try.ntmps3
      go_wp2_with (first
        | (go_at_call 6; (with_reducible refine ca.mono ?_); rintro e w1 ⟨rfl, hb1⟩; have HB1 := Lib.hid (hb0.trans (hb1.mono hb0.size)); have t31 := t3.below hb1; have cf := HFW.out _ HB1.out)
        | (go_at_call 7; (with_reducible refine cf.mono ?_); rintro e w2 ⟨rfl, hb2⟩; have HB2 := Lib.hid (HB1.out.trans (hb2.mono HB1.out.size)); have T2 := Lib.hid (t31.below hb2); obtain ⟨-, k0, k1, k2, -⟩ := t31.below hb2; have csh := refShape_any s p b w2; rw [HSB.out] at csh; clear hb1 hb2 t31 cf)
        | (go_at_call 8; (with_reducible refine csh.mono ?_); rintro e w3 ⟨rfl, hb3⟩; have HB3 := Lib.hid (HB2.out.trans (hb3.mono HB2.out.size)); have T3 := Lib.hid (T2.out.below hb3); obtain ⟨-, l0, l1, l2, -⟩ := T2.out.below hb3; have cn := new_no s p b w3 HSB.out; clear hb3 csh)
        | (go_at_call 9; (with_reducible refine cn.mono ?_); rintro e w4 ⟨rfl, hb4⟩; have HB4 := Lib.hid (HB3.out.trans (hb4.mono HB3.out.size)); obtain ⟨-, m0, m1, m2, -⟩ := T3.out.below hb4; have cr := right_any s p b w4; rw [HSB.out] at cr; clear hb4 cn)
        | (go_at_call 10; (with_reducible refine cr.mono ?_); rintro e w5 ⟨rfl, hb5⟩; have HB5 := Lib.hid (HB4.out.trans (hb5.mono HB4.out.size)); clear hb5 cr))
      go_ret
      exact ⟨rfl, HB5.out⟩
    | true =>
      obtain ⟨S, P, B, rfl, rfl, rfl, hshp⟩ := shp_of hs
      have HSB := Lib.hid hs
      have HSP := Lib.hid hshp
      clear hs hshp
      go_enter Try.func3, Try.ntmps3
      go_wp2_with (first
        | (go_at_call 6; (with_reducible refine ca.mono ?_); rintro e w1 ⟨rfl, hb1⟩; have HB1 := Lib.hid (hb0.trans (hb1.mono hb0.size)); have t31 := t3.below hb1; have cf := HFW.out _ HB1.out)
        | (go_at_call 7; (with_reducible refine cf.mono ?_); rintro e w2 ⟨rfl, hb2⟩; have HB2 := Lib.hid (HB1.out.trans (hb2.mono HB1.out.size)); have T2 := Lib.hid (t31.below hb2); obtain ⟨-, k0, k1, k2, -⟩ := t31.below hb2; have csh := refShape_any S P B w2; rw [HSB.out] at csh; clear hb1 hb2 t31 cf)
        | (go_at_call 8; (with_reducible refine csh.mono ?_); rintro e w3 ⟨rfl, hb3⟩; have HB3 := Lib.hid (HB2.out.trans (hb3.mono HB2.out.size)); have T3 := Lib.hid (T2.out.below hb3); obtain ⟨-, l0, l1, l2, -⟩ := T2.out.below hb3; have cm := made_any HSP.out A n c L (ds_mono (HS.out.below HB3.out) HB3.out.size) HF.out HWF.out; clear hb3 csh)
        | (go_at_call 11; (with_reducible refine cm.mono ?_); rintro e w4 ⟨db, mb, xb, v4, rfl, hbo, hb4⟩; have HB4 := Lib.hid (HB3.out.trans (hb4.mono HB3.out.size)); have HBO := Lib.hid hbo; obtain ⟨-, m0, m1, m2, -⟩ := T3.out.below hb4; have cr := right_any S P B w4; rw [HSB.out] at cr; clear hb4 cm hbo)
        | (go_at_call 10; (with_reducible refine cr.mono ?_); rintro e w5 ⟨rfl, hb5⟩; have HB5 := Lib.hid (HB4.out.trans (hb5.mono HB4.out.size)); have cl := like_any (HBO.out.dev.below hb5) (HBO.out.rdv.below hb5) (Nat.le_trans (deeds_len S P B (fewB_all HF.out).2) (by omega)); clear hb5 cr)
        | (go_at_call 12; (with_reducible refine cl.mono ?_); rintro e w6 ⟨rfl, hb6⟩; have HB6 := Lib.hid (HB5.out.trans (hb6.mono HB5.out.size)); clear hb6 cl))
      go_ret
      exact ⟨rfl, HB6.out⟩
end Go.Proofs.Ytgipbamobpmbcaa
