/-
  FlashOwn: all ways.
-/
import Derived.Test.YtgipbamobpmbcaaFlashOwnW
namespace Go.Proofs.Ytgipbamobpmbcaa
open Go.ChangeShapes Go.WideShapes Go.ChangeAt Go.RowKit Fl

set_option maxHeartbeats 8000000 in
set_option maxRecDepth 100000 in
theorem flashOwn_walk (s p b : Int) (A : Option Addr) (n c : Nat) (L : List Dd) (A2 : Option Addr) (n2 c2 : Nat) (l : List UInt8) (seg page : Int) (w : World) (h : Ds w w.heap.size A n L) (hnc : n ≤ c) (hc : c ≤ maxLen) (hwf : ∀ d ∈ L, d.Wf)
    (h2 : Bs w w.heap.size A2 n2 l) (_ : n2 ≤ c2) (hs1 : -9223372036854775808 ≤ seg) (hs2 : seg ≤ 9223372036854775807) (hp1 : -9223372036854775808 ≤ page) (hp2 : page ≤ 9223372036854775807) :
    Calls Try.prog 5 #[.agg #[.int .i64 s, .int .i64 p, .int .i64 b], .slice A n c, .slice A2 n2 c2, .int .i64 seg, .int .i64 page] w (Yes w) := by
  by_cases hall : fewB L = true ∧ n2 ≤ 300 ∧ shpB s p b = true
  · obtain ⟨hf, hn2, hs⟩ := hall
    obtain ⟨S, P, B, rfl, rfl, rfl, hshp⟩ := shp_of hs
    exact flashOwn_main S P B A n c L A2 n2 c2 l seg page w hs h hnc hc hwf h2 hf hn2 (WalkArith.wf_i64 (by omega)) (WalkArith.wf_i64 (by omega))
  have hb0 := below_new4 w (.cells #[.int .i64 s, .int .i64 p, .int .i64 b] 23)
  have t3 := Three.new w (.int .i64 s) (.int .i64 p) (.int .i64 b) 23
  have ca := awake_any (w.alloc (.cells #[.int .i64 s, .int .i64 p, .int .i64 b] 23))
  have q1 := devNil
  have n1 := fun W => read_nil seg page W
  have n2' := fun W => sync_nil W
  have n3 : ∀ W : World, Calls Try.prog 18 #[.pointer none, .agg #[.int .u64 0, .int .i64 0, .int .i64 0]] W fun e w' => e = .returned (.tuple #[]) ∧ Below W.heap.size W w' := fun W => crash_nil 0 0 0 W
  have n4 := fun W => write_nil seg page (.slice A2 n2 c2) W
  have n5 := fun W => erase_nil seg W
  have n6 := fun W => used_nil seg page W
  have n7 := fun W => dirty_nil W
  have n8 := fun W => copy_nil W
  have n9 := fun W => shape_nil W
  have HB0 := Lib.hid hb0
  have T0 := Lib.hid t3
  have HS := Lib.hid h
  have HFW := Lib.hid (fun W (hb : Below w.heap.size w W) => few_any A n c L W (ds_mono (HS.out.below hb) hb.size) (Nat.le_trans hnc hc))
  clear h h2 hwf hb0 t3 hs1 hs2 hp1 hp2
  unfold Yes
  cases hf : fewB L with
  | false =>
    rw [hf] at HFW
    clear hall hf
    go_enter Try.func5, Try.ntmps5
    go_wp2_with (first
      | (go_at_call 6; (with_reducible refine ca.mono ?_); rintro e w1 ⟨rfl, hb⟩; have HB1 := Lib.hid hb; clear hb ca)
      | (go_at_call 20; (with_reducible refine (n1 _).mono ?_); rintro e w2 ⟨rfl, hb⟩; have HB2 := Lib.hid (HB1.out.trans (hb.mono HB1.out.size)); clear hb)
      | (go_at_call 13; (with_reducible refine (n2' _).mono ?_); rintro e w' ⟨rfl, rfl⟩)
      | (go_at_call 18; (with_reducible refine (n3 _).mono ?_); rintro e w3 ⟨rfl, hb⟩; have HB3 := Lib.hid (HB2.out.trans (hb.mono HB2.out.size)); clear hb)
      | (go_at_call 16; (with_reducible refine (n4 _).mono ?_); rintro e w4 ⟨rfl, hb⟩; have HB4 := Lib.hid (HB3.out.trans (hb.mono HB3.out.size)); clear hb)
      | (go_at_call 24; (with_reducible refine (n5 _).mono ?_); rintro e w5 ⟨rfl, hb⟩; have HB5 := Lib.hid (HB4.out.trans (hb.mono HB4.out.size)); clear hb)
      | (go_at_call 21; (with_reducible refine (n6 _).mono ?_); rintro e w6 ⟨rfl, hb⟩; have HB6 := Lib.hid (HB5.out.trans (hb.mono HB5.out.size)); clear hb)
      | (go_at_call 23; (with_reducible refine (n7 _).mono ?_); rintro e w' ⟨rfl, rfl⟩)
      | (go_at_call 25; (with_reducible refine (n8 _).mono ?_); rintro e w' ⟨rfl, rfl⟩)
      | (go_at_call 26; (with_reducible refine (n9 _).mono ?_); rintro e w7 ⟨rfl, hb⟩; have HB7 := Lib.hid (HB6.out.trans (hb.mono HB6.out.size)); have cf := HFW.out _ (HB0.out.trans (HB7.out.mono HB0.out.size)); clear hb)
      | (go_at_call 7; (with_reducible refine cf.mono ?_); rintro e w8 ⟨rfl, hb⟩; have HB8 := Lib.hid (HB7.out.trans (hb.mono HB7.out.size)); clear hb cf))
    go_ret
    exact ⟨rfl, HB0.out.trans (HB8.out.mono HB0.out.size)⟩
  | true =>
    rw [hf] at HFW
    by_cases h300 : n2 ≤ 300
    · have h300d : decide ((300 : Int) < n2) = false := decide_eq_false (by omega)
      have hs : shpB s p b = false := by
        cases hs : shpB s p b
        · rfl
        · exact absurd ⟨hf, h300, hs⟩ hall
      have HSB := Lib.hid hs
      clear hall hf hs h300
      go_enter Try.func5, Try.ntmps5
      go_wp2_with (first
        | (go_at_call 6; (with_reducible refine ca.mono ?_); rintro e w1 ⟨rfl, hb⟩; have HB1 := Lib.hid hb; clear hb ca)
        | (go_at_call 20; (with_reducible refine (n1 _).mono ?_); rintro e w2 ⟨rfl, hb⟩; have HB2 := Lib.hid (HB1.out.trans (hb.mono HB1.out.size)); clear hb)
        | (go_at_call 13; (with_reducible refine (n2' _).mono ?_); rintro e w' ⟨rfl, rfl⟩)
        | (go_at_call 18; (with_reducible refine (n3 _).mono ?_); rintro e w3 ⟨rfl, hb⟩; have HB3 := Lib.hid (HB2.out.trans (hb.mono HB2.out.size)); clear hb)
        | (go_at_call 16; (with_reducible refine (n4 _).mono ?_); rintro e w4 ⟨rfl, hb⟩; have HB4 := Lib.hid (HB3.out.trans (hb.mono HB3.out.size)); clear hb)
        | (go_at_call 24; (with_reducible refine (n5 _).mono ?_); rintro e w5 ⟨rfl, hb⟩; have HB5 := Lib.hid (HB4.out.trans (hb.mono HB4.out.size)); clear hb)
        | (go_at_call 21; (with_reducible refine (n6 _).mono ?_); rintro e w6 ⟨rfl, hb⟩; have HB6 := Lib.hid (HB5.out.trans (hb.mono HB5.out.size)); clear hb)
        | (go_at_call 23; (with_reducible refine (n7 _).mono ?_); rintro e w' ⟨rfl, rfl⟩)
        | (go_at_call 25; (with_reducible refine (n8 _).mono ?_); rintro e w' ⟨rfl, rfl⟩)
        | (go_at_call 26; (with_reducible refine (n9 _).mono ?_); rintro e w7 ⟨rfl, hb⟩; have HB7 := Lib.hid (HB6.out.trans (hb.mono HB6.out.size)); have cf := HFW.out _ (HB0.out.trans (HB7.out.mono HB0.out.size)); clear hb)
        | (go_at_call 7; (with_reducible refine cf.mono ?_); rintro e w8 ⟨rfl, hb⟩; have HB8 := Lib.hid (HB7.out.trans (hb.mono HB7.out.size)); obtain ⟨-, k0, k1, k2, -⟩ := T0.out.below HB8.out; have csh := refShape_any s p b w8; rw [HSB.out] at csh; clear hb cf)
        | (go_at_call 8; (with_reducible refine csh.mono ?_); rintro e w9 ⟨rfl, hb⟩; have HB9 := Lib.hid (HB8.out.trans (hb.mono HB8.out.size)); clear hb csh))
      go_ret
      exact ⟨rfl, HB0.out.trans (HB9.out.mono HB0.out.size)⟩
    · have h300d : decide ((300 : Int) < n2) = true := decide_eq_true (by omega)
      clear hall hf h300
      go_enter Try.func5, Try.ntmps5
      go_wp2_with (first
        | (go_at_call 6; (with_reducible refine ca.mono ?_); rintro e w1 ⟨rfl, hb⟩; have HB1 := Lib.hid hb; clear hb ca)
        | (go_at_call 20; (with_reducible refine (n1 _).mono ?_); rintro e w2 ⟨rfl, hb⟩; have HB2 := Lib.hid (HB1.out.trans (hb.mono HB1.out.size)); clear hb)
        | (go_at_call 13; (with_reducible refine (n2' _).mono ?_); rintro e w' ⟨rfl, rfl⟩)
        | (go_at_call 18; (with_reducible refine (n3 _).mono ?_); rintro e w3 ⟨rfl, hb⟩; have HB3 := Lib.hid (HB2.out.trans (hb.mono HB2.out.size)); clear hb)
        | (go_at_call 16; (with_reducible refine (n4 _).mono ?_); rintro e w4 ⟨rfl, hb⟩; have HB4 := Lib.hid (HB3.out.trans (hb.mono HB3.out.size)); clear hb)
        | (go_at_call 24; (with_reducible refine (n5 _).mono ?_); rintro e w5 ⟨rfl, hb⟩; have HB5 := Lib.hid (HB4.out.trans (hb.mono HB4.out.size)); clear hb)
        | (go_at_call 21; (with_reducible refine (n6 _).mono ?_); rintro e w6 ⟨rfl, hb⟩; have HB6 := Lib.hid (HB5.out.trans (hb.mono HB5.out.size)); clear hb)
        | (go_at_call 23; (with_reducible refine (n7 _).mono ?_); rintro e w' ⟨rfl, rfl⟩)
        | (go_at_call 25; (with_reducible refine (n8 _).mono ?_); rintro e w' ⟨rfl, rfl⟩)
        | (go_at_call 26; (with_reducible refine (n9 _).mono ?_); rintro e w7 ⟨rfl, hb⟩; have HB7 := Lib.hid (HB6.out.trans (hb.mono HB6.out.size)); have cf := HFW.out _ (HB0.out.trans (HB7.out.mono HB0.out.size)); clear hb)
        | (go_at_call 7; (with_reducible refine cf.mono ?_); rintro e w8 ⟨rfl, hb⟩; have HB8 := Lib.hid (HB7.out.trans (hb.mono HB7.out.size)); clear hb cf))
      go_ret
      exact ⟨rfl, HB0.out.trans (HB8.out.mono HB0.out.size)⟩
end Go.Proofs.Ytgipbamobpmbcaa
