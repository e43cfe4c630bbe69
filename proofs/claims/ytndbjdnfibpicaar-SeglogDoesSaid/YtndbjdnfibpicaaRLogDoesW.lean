/-
  The walk of SeglogDoes.
-/
import Derived.Test.YtndbjdnfibpicaaRLogMade
import Derived.Test.YtndbjdnfibpicaaRLogAwake
import Derived.Test.YtndbjdnfibpicaaRFlashLike
namespace Go.Proofs.YtndbjdnfibpicaaR
open Go.ChangeShapes Go.WideShapes Go.ChangeAt Go.RowKit Fl Lo
set_option maxRecDepth 100000
set_option linter.unusedVariables false

/-- the truth, and nothing that was there has turned -/
def Yes15 (w : World) (e : Ending) (w' : World) : Prop := e = .returned (.bool true) ∧ Below w.heap.size w w'
theorem shp_of15 {s p b : Int} (h : shpB s p b = true) : ∃ S P B : Nat, s = S ∧ p = P ∧ b = B ∧ Shp S P B := by
  unfold shpB at h
  simp only [Bool.and_eq_true, decide_eq_true_eq] at h
  exact ⟨s.toNat, p.toNat, b.toNat, by omega, by omega, by omega, ⟨by omega, by omega, by omega, by omega, by omega, by omega⟩⟩
theorem logNil (A : Option Addr) (w : World) : (binOp BinOp.eql 32 (.pointer A) (.pointer none)).run Try.prog w = .ok (.bool A.isNone) w := by
  cases A <;> kernel_rfl
section
variable {A : Option Addr} {n c : Nat} {L : List Ld} {w : World}
set_option maxHeartbeats 4000000 in
theorem does_many (s p b sg st : Int) (h : Lds w w.heap.size A n L) (hnc : n ≤ c) (hc : c ≤ maxLen) (hf : fewL L = false) :
    Calls Try.prog 3 #[.agg #[.int .i64 s, .int .i64 p, .int .i64 b], .slice A n c, .int .i64 sg, .int .i64 st] w (Yes15 w) := by
  have hb0 := below_new4 w (.cells #[.int .i64 s, .int .i64 p, .int .i64 b] 23)
  have ca := lawake_any (w.alloc (.cells #[.int .i64 s, .int .i64 p, .int .i64 b] 23))
  have HS := Lib.hid h
  have HFW := Lib.hid (fun W (hb : Below w.heap.size w W) => fewL_any A n c L W ((HS.out.below hb).mono hb.size) (Nat.le_trans hnc hc))
  rw [hf] at HFW
  unfold Yes15
  clear h hf
  go_enter Try.func3, Try.ntmps3
  go_wp2_with (first
    | (go_at_call 4; (with_reducible refine ca.mono ?_); rintro e w1 ⟨rfl, hb1⟩; have HB1 := Lib.hid (hb0.trans (hb1.mono hb0.size)); have cf := HFW.out _ HB1.out; clear ca hb1)
    | (go_at_call 5; (with_reducible refine cf.mono ?_); rintro e w2 ⟨rfl, hb2⟩; have HB2 := Lib.hid (HB1.out.trans (hb2.mono HB1.out.size)); clear cf hb2))
  go_ret
  exact ⟨rfl, HB2.out⟩
set_option maxHeartbeats 4000000 in
theorem does_none (s p b sg st : Int) (h : Lds w w.heap.size A n L) (hnc : n ≤ c) (hc : c ≤ maxLen) (hf : fewL L = true) (hm : (shpB s p b && decide (4 ≤ s)) = false) :
    Calls Try.prog 3 #[.agg #[.int .i64 s, .int .i64 p, .int .i64 b], .slice A n c, .int .i64 sg, .int .i64 st] w (Yes15 w) := by
  have hb0 := below_new4 w (.cells #[.int .i64 s, .int .i64 p, .int .i64 b] 23)
  have t3 := Three.new w (.int .i64 s) (.int .i64 p) (.int .i64 b) 23
  have T3 := Lib.hid t3
  have ca := lawake_any (w.alloc (.cells #[.int .i64 s, .int .i64 p, .int .i64 b] 23))
  have HS := Lib.hid h
  have HFW := Lib.hid (fun W (hb : Below w.heap.size w W) => fewL_any A n c L W ((HS.out.below hb).mono hb.size) (Nat.le_trans hnc hc))
  rw [hf] at HFW
  have HMY := Lib.hid (fun W => may_any s p b W)
  rw [hm] at HMY
  have q1 := logNil
  have q2 := devNil2
  unfold Yes15
  clear h hf t3
  cases hs : shpB s p b with
  | false =>
    have HSB := Lib.hid hs
    clear hs hm
    go_enter Try.func3, Try.ntmps3
    go_wp2_with (first
      | (go_at_call 4; (with_reducible refine ca.mono ?_); rintro e w1 ⟨rfl, hb1⟩; have HB1 := Lib.hid (hb0.trans (hb1.mono hb0.size)); have HT1 := Lib.hid (T3.out.below hb1); have cf := HFW.out _ HB1.out; clear ca hb1)
      | (go_at_call 5; (with_reducible refine cf.mono ?_); rintro e w2 ⟨rfl, hb2⟩; have HB2 := Lib.hid (HB1.out.trans (hb2.mono HB1.out.size)); have HT2 := Lib.hid (HT1.out.below hb2); obtain ⟨-, k0, k1, k2, -⟩ := HT2.out; have cm := HMY.out w2; clear cf hb2)
      | (go_at_call 6; (with_reducible refine cm.mono ?_); rintro e w3 ⟨rfl, hb3⟩; have HB3 := Lib.hid (HB2.out.trans (hb3.mono HB2.out.size)); obtain ⟨-, l0, l1, l2, -⟩ := HT2.out.below hb3; have cn := new_no s p b w3 HSB.out; clear cm hb3)
      | (go_at_call 7; (with_reducible refine cn.mono ?_); rintro e w4 ⟨rfl, hb4⟩; have HB4 := Lib.hid (HB3.out.trans (hb4.mono HB3.out.size)); have cl := lnew_nil w4; clear cn hb4)
      | (go_at_call 8; (with_reducible refine cl.mono ?_); rintro e w5 ⟨rfl, hb5⟩; have HB5 := Lib.hid (HB4.out.trans (hb5.mono HB4.out.size)); clear cl hb5))
    go_ret
    exact ⟨rfl, HB5.out⟩
  | true =>
    obtain ⟨S, P, B, rfl, rfl, rfl, hshp⟩ := shp_of15 hs
    have hS4 : S < 4 := by
      rw [hs, Bool.true_and, decide_eq_false_iff_not] at hm
      omega
    have HSP := Lib.hid hshp
    have HS4 := Lib.hid hS4
    clear hs hshp hm hS4
    go_enter Try.func3, Try.ntmps3
    go_wp2_with (first
      | (go_at_call 4; (with_reducible refine ca.mono ?_); rintro e w1 ⟨rfl, hb1⟩; have HB1 := Lib.hid (hb0.trans (hb1.mono hb0.size)); have HT1 := Lib.hid (T3.out.below hb1); have cf := HFW.out _ HB1.out; clear ca hb1)
      | (go_at_call 5; (with_reducible refine cf.mono ?_); rintro e w2 ⟨rfl, hb2⟩; have HB2 := Lib.hid (HB1.out.trans (hb2.mono HB1.out.size)); have HT2 := Lib.hid (HT1.out.below hb2); obtain ⟨-, k0, k1, k2, -⟩ := HT2.out; have cm := HMY.out w2; clear cf hb2)
      | (go_at_call 6; (with_reducible refine cm.mono ?_); rintro e w3 ⟨rfl, hb3⟩; have HB3 := Lib.hid (HB2.out.trans (hb3.mono HB2.out.size)); obtain ⟨-, l0, l1, l2, -⟩ := HT2.out.below hb3; have cn := new_yes (k := 1) HSP.out (zero_frL w3); clear cm hb3)
      | (go_at_call 7; (with_reducible refine cn.mono ?_); rintro e w4 ⟨db, mb, v4, rfl, h1, h2, hD4, hS4⟩; have HB4 := Lib.hid (HB3.out.trans (((hS4 1).toBelow (Nat.le_refl _) (fun i _ => by show (0 : Nat) ≠ 1; omega)).mono HB3.out.size)); have cl := lnew_small hD4 HS4.out; clear cn hD4 hS4 h1 h2)
      | (go_at_call 8; (with_reducible refine cl.mono ?_); rintro e w5 ⟨rfl, hb5⟩; have HB5 := Lib.hid (HB4.out.trans (hb5.mono HB4.out.size)); clear cl hb5))
    go_ret
    exact ⟨rfl, HB5.out⟩
/-- the logs' answers, in each world behind -/
structure Told15 (w : World) (gb xb : Nat) (g : Lg) : Prop where
  c0 : w.cell? ⟨gb, 0, none⟩ = some (.pointer (some ⟨xb, 0, none⟩))
  c2 : w.cell? ⟨gb, 2, none⟩ = some (.int .i64 g.op)
  c3 : w.cell? ⟨gb, 3, none⟩ = some (.int .i64 g.page)
  c4 : w.cell? ⟨gb, 4, none⟩ = some (.int .u64 g.next)
theorem Rlg.told15 {w : World} {v : Nat → Nat} {S P B gb xb : Nat} {g : Lg} (h : Rlg w v S P B gb xb g) : Told15 w gb xb g := by
  obtain ⟨rb, cap, h1, -⟩ := h.blk
  obtain ⟨a0, a1, a2, a3, a4⟩ := h1.c
  exact ⟨a0, a2, a3, a4⟩
set_option maxHeartbeats 8000000 in
theorem does_yes_in (S P B : Nat) (hshp : Shp S P B) (h4 : 4 ≤ S) (j : Nat) (hj : j < S) (st : Int) (h : Lds w w.heap.size A n L) (hnc : n ≤ c) (hc : c ≤ maxLen) (hf : fewL L = true) (hwf : ∀ d ∈ L, d.Wf) :
    Calls Try.prog 3 #[.agg #[.int .i64 S, .int .i64 P, .int .i64 B], .slice A n c, .int .i64 (j : Int), .int .i64 st] w (Yes15 w) := by
  have hb0 := below_new4 w (.cells #[.int .i64 S, .int .i64 P, .int .i64 B] 23)
  have t3 := Three.new w (.int .i64 S) (.int .i64 P) (.int .i64 B) 23
  have T3 := Lib.hid t3
  have ca := lawake_any (w.alloc (.cells #[.int .i64 S, .int .i64 P, .int .i64 B] 23))
  have HS := Lib.hid h
  have HFW := Lib.hid (fun W (hb : Below w.heap.size w W) => fewL_any A n c L W ((HS.out.below hb).mono hb.size) (Nat.le_trans hnc hc))
  rw [hf] at HFW
  have HMY := Lib.hid (fun W => may_any S P B W)
  rw [hshp.ofB, Bool.true_and, decide_eq_true (by omega : (4 : Int) ≤ (S : Int))] at HMY
  have HSP := Lib.hid hshp
  have H4 := Lib.hid h4
  have HWF := Lib.hid hwf
  have HF := Lib.hid hf
  have hlen := ldeeds_good (S := S) (P := P) hshp.b1 L (fewL_all hf).1
  have hl60 := (fewL_all hf).2
  obtain ⟨g, hg⟩ : ∃ g, g = ldeeds S P B L := ⟨_, rfl⟩
  rw [← hg] at hlen
  have HGE := Lib.hid hg
  have hML : g.M.length ≤ 100000 := by have := hlen.len; omega
  have HML := Lib.hid hML
  have hs16 := hshp.s2
  unfold Yes15
  clear h hf t3 hshp hwf hg hlen hML
  have e0 : decide ((0 : Int) ≤ (j : Int)) = true := decide_eq_true (by omega)
  have e1 : decide ((j : Int) < (S : Int)) = true := decide_eq_true (by omega)
  have hjI : (j : Int) < (S : Int) := by omega
  go_enter Try.func3, Try.ntmps3
  go_wp2_with (first
    | (go_at_call 4; (with_reducible refine ca.mono ?_); rintro e w1 ⟨rfl, hb1⟩; have HB1 := Lib.hid (hb0.trans (hb1.mono hb0.size)); have HT1 := Lib.hid (T3.out.below hb1); have cf := HFW.out _ HB1.out; clear ca hb1)
    | (go_at_call 5; (with_reducible refine cf.mono ?_); rintro e w2 ⟨rfl, hb2⟩; have HB2 := Lib.hid (HB1.out.trans (hb2.mono HB1.out.size)); have HT2 := Lib.hid (HT1.out.below hb2); obtain ⟨-, k0, k1, k2, -⟩ := HT2.out; have cm := HMY.out w2; clear cf hb2)
    | (go_at_call 6; (with_reducible refine cm.mono ?_); rintro e w3 ⟨rfl, hb3⟩; have HB3 := Lib.hid (HB2.out.trans (hb3.mono HB2.out.size)); have HT3 := Lib.hid (HT2.out.below hb3); obtain ⟨-, l0, l1, l2, -⟩ := HT3.out; have cd := lmade_any HSP.out H4.out A n c L ((HS.out.below HB3.out).mono HB3.out.size) HF.out HWF.out; rw [← HGE.out] at cd; clear cm hb3)
    | (go_at_call 9; (with_reducible refine cd.mono ?_); rintro e w4 ⟨lb, db, mb, gb, xb, v4, rfl, hbo, hb4⟩; have HB4 := Lib.hid (HB3.out.trans (hb4.mono HB3.out.size)); have HBO := Lib.hid hbo; obtain ⟨-, m0, m1, m2, -⟩ := HT3.out.below hb4; obtain ⟨rb, cap, hgb, hrb, -, -⟩ := hbo.rlg.blk; obtain ⟨r0, r1, r2, r3, r4⟩ := hgb.c; have hjl : j < g.st.length := (by rw [hbo.plg.inv.len]; exact hj); have hgj := List.getElem?_eq_getElem hjl; have cy := hrb.c hgj; have hy : stI S g (j : Int) = g.st[j] := (by unfold stI; rw [if_pos ⟨by omega, hjI⟩, Int.toNat_natCast, List.getD_eq_getElem?_getD, hgj, Option.getD_some]); have HY := Lib.hid hy; obtain ⟨y, hy2⟩ : ∃ y, y = g.st[j] := ⟨_, rfl⟩; rw [← hy2] at cy HY; clear hgb hrb hgj hy hy2; have co := lopen_any hbo.plg; clear cd hb4 hbo)
    | (go_at_call 10; (with_reducible refine co.mono ?_); rintro e w5 ⟨rfl, hb5⟩; have HB45 := Lib.hid hb5; have HB5 := Lib.hid (HB4.out.trans (hb5.mono HB4.out.size)); clear co hb5))
  have hbd : Below w4.heap.size w4 w5.drew := HB45.out.drew
  have HBD := Lib.hid hbd
  have HPD := Lib.hid (HBO.out.plg.below hbd)
  have HRD := Lib.hid (HBO.out.rlg.below hbd)
  have ht5 := HRD.out.told15
  have HP0 : Hid (w5.drew.cell? ⟨gb, 0, none⟩ = some (.pointer (some ⟨xb, 0, none⟩)) ∧ w5.drew.cell? ⟨gb, 2, none⟩ = some (.int .i64 g.op) ∧ w5.drew.cell? ⟨gb, 3, none⟩ = some (.int .i64 g.page) ∧ w5.drew.cell? ⟨gb, 4, none⟩ = some (.int .u64 g.next)) := Lib.hid ⟨ht5.c0, ht5.c2, ht5.c3, ht5.c4⟩
  have cdv := device_any HPD.out
  have cli := like_any HPD.out.dev HRD.out.rdv HML.out
  obtain ⟨mc, hmc⟩ : ∃ mc, mc = cnt st g.st := ⟨_, rfl⟩
  have HMC := Lib.hid hmc
  have HB6B := HB5
  clear hbd ht5 hmc
  go_region_held3 (fun W => W.cell? ⟨gb, 0, none⟩ = some (.pointer (some ⟨xb, 0, none⟩)) ∧ W.cell? ⟨gb, 2, none⟩ = some (.int .i64 g.op) ∧ W.cell? ⟨gb, 3, none⟩ = some (.int .i64 g.page) ∧ W.cell? ⟨gb, 4, none⟩ = some (.int .u64 g.next))
    (first | exact HP0.out | exact HP6.out | exact HP7.out | exact HP8.out)
    ((first
      | (go_at_call 12; (with_reducible refine cdv.mono ?_); rintro e wx ⟨rfl, rfl⟩; clear cdv)
      | (go_at_call 11; (with_reducible refine cli.mono ?_); rintro e w6 ⟨rfl, hb6⟩; have HB6 := Lib.hid (HB5.out.drew.trans (hb6.mono HB5.out.size)); have HP6d := Lib.hid (HPD.out.below hb6); have HR6d := Lib.hid (HRD.out.below hb6); have ht6 := HR6d.out.told15; have HP6 : Hid (w6.cell? ⟨gb, 0, none⟩ = some (.pointer (some ⟨xb, 0, none⟩)) ∧ w6.cell? ⟨gb, 2, none⟩ = some (.int .i64 g.op) ∧ w6.cell? ⟨gb, 3, none⟩ = some (.int .i64 g.page) ∧ w6.cell? ⟨gb, 4, none⟩ = some (.int .u64 g.next)) := Lib.hid ⟨ht6.c0, ht6.c2, ht6.c3, ht6.c4⟩; have cst := state_any HP6d.out (j : Int); rw [HY.out] at cst; clear cli hb6 ht6)
      | (go_at_call 13; (with_reducible refine cst.mono ?_); rintro e w7 ⟨rfl, hb7⟩; have HB7 := Lib.hid (HB6.out.trans (hb7.mono HB6.out.size)); have HP7d := Lib.hid (HP6d.out.below hb7); have HR7d := Lib.hid (HR6d.out.below hb7); have ht7 := HR7d.out.told15; have HP7 : Hid (w7.cell? ⟨gb, 0, none⟩ = some (.pointer (some ⟨xb, 0, none⟩)) ∧ w7.cell? ⟨gb, 2, none⟩ = some (.int .i64 g.op) ∧ w7.cell? ⟨gb, 3, none⟩ = some (.int .i64 g.page) ∧ w7.cell? ⟨gb, 4, none⟩ = some (.int .u64 g.next)) := Lib.hid ⟨ht7.c0, ht7.c2, ht7.c3, ht7.c4⟩; have cco := count_any HP7d.out st; rw [← HMC.out] at cco; clear cst hb7 ht7)
      | (go_at_call 14; (with_reducible refine cco.mono ?_); rintro e w8 ⟨rfl, hb8⟩; have HB8 := Lib.hid (HB7.out.trans (hb8.mono HB7.out.size)); have HP8d := Lib.hid (HP7d.out.below hb8); have HR8d := Lib.hid (HR7d.out.below hb8); have ht8 := HR8d.out.told15; have HP8 : Hid (w8.cell? ⟨gb, 0, none⟩ = some (.pointer (some ⟨xb, 0, none⟩)) ∧ w8.cell? ⟨gb, 2, none⟩ = some (.int .i64 g.op) ∧ w8.cell? ⟨gb, 3, none⟩ = some (.int .i64 g.page) ∧ w8.cell? ⟨gb, 4, none⟩ = some (.int .u64 g.next)) := Lib.hid ⟨ht8.c0, ht8.c2, ht8.c3, ht8.c4⟩; have crc := refCount_any HR8d.out st; rw [← HMC.out] at crc; have cnx := lnext_any HP8d.out; clear cco hb8 ht8)
      | (go_at_call 15; (with_reducible refine crc.mono ?_); rintro e wy ⟨rfl, rfl⟩; clear crc)
      | (go_at_call 16; (with_reducible refine cnx.mono ?_); rintro e wz ⟨rfl, rfl⟩; clear cnx)))
  all_goals
    go_wp2
    go_ret
    exact ⟨rfl, HB8.out⟩
set_option maxHeartbeats 8000000 in
theorem does_yes_neg (S P B : Nat) (hshp : Shp S P B) (h4 : 4 ≤ S) (sg : Int) (hsg : sg < 0) (st : Int) (h : Lds w w.heap.size A n L) (hnc : n ≤ c) (hc : c ≤ maxLen) (hf : fewL L = true) (hwf : ∀ d ∈ L, d.Wf) :
    Calls Try.prog 3 #[.agg #[.int .i64 S, .int .i64 P, .int .i64 B], .slice A n c, .int .i64 sg, .int .i64 st] w (Yes15 w) := by
  have hb0 := below_new4 w (.cells #[.int .i64 S, .int .i64 P, .int .i64 B] 23)
  have t3 := Three.new w (.int .i64 S) (.int .i64 P) (.int .i64 B) 23
  have T3 := Lib.hid t3
  have ca := lawake_any (w.alloc (.cells #[.int .i64 S, .int .i64 P, .int .i64 B] 23))
  have HS := Lib.hid h
  have HFW := Lib.hid (fun W (hb : Below w.heap.size w W) => fewL_any A n c L W ((HS.out.below hb).mono hb.size) (Nat.le_trans hnc hc))
  rw [hf] at HFW
  have HMY := Lib.hid (fun W => may_any S P B W)
  rw [hshp.ofB, Bool.true_and, decide_eq_true (by omega : (4 : Int) ≤ (S : Int))] at HMY
  have HSP := Lib.hid hshp
  have H4 := Lib.hid h4
  have HWF := Lib.hid hwf
  have HF := Lib.hid hf
  have hlen := ldeeds_good (S := S) (P := P) hshp.b1 L (fewL_all hf).1
  have hl60 := (fewL_all hf).2
  obtain ⟨g, hg⟩ : ∃ g, g = ldeeds S P B L := ⟨_, rfl⟩
  rw [← hg] at hlen
  have HGE := Lib.hid hg
  have hML : g.M.length ≤ 100000 := by have := hlen.len; omega
  have HML := Lib.hid hML
  have hs16 := hshp.s2
  unfold Yes15
  clear h hf t3 hshp hwf hg hlen hML
  have e0 : decide ((0 : Int) ≤ sg) = false := decide_eq_false (by omega)
  go_enter Try.func3, Try.ntmps3
  go_wp2_with (first
    | (go_at_call 4; (with_reducible refine ca.mono ?_); rintro e w1 ⟨rfl, hb1⟩; have HB1 := Lib.hid (hb0.trans (hb1.mono hb0.size)); have HT1 := Lib.hid (T3.out.below hb1); have cf := HFW.out _ HB1.out; clear ca hb1)
    | (go_at_call 5; (with_reducible refine cf.mono ?_); rintro e w2 ⟨rfl, hb2⟩; have HB2 := Lib.hid (HB1.out.trans (hb2.mono HB1.out.size)); have HT2 := Lib.hid (HT1.out.below hb2); obtain ⟨-, k0, k1, k2, -⟩ := HT2.out; have cm := HMY.out w2; clear cf hb2)
    | (go_at_call 6; (with_reducible refine cm.mono ?_); rintro e w3 ⟨rfl, hb3⟩; have HB3 := Lib.hid (HB2.out.trans (hb3.mono HB2.out.size)); have HT3 := Lib.hid (HT2.out.below hb3); obtain ⟨-, l0, l1, l2, -⟩ := HT3.out; have cd := lmade_any HSP.out H4.out A n c L ((HS.out.below HB3.out).mono HB3.out.size) HF.out HWF.out; rw [← HGE.out] at cd; clear cm hb3)
    | (go_at_call 9; (with_reducible refine cd.mono ?_); rintro e w4 ⟨lb, db, mb, gb, xb, v4, rfl, hbo, hb4⟩; have HB4 := Lib.hid (HB3.out.trans (hb4.mono HB3.out.size)); have HBO := Lib.hid hbo; obtain ⟨-, m0, m1, m2, -⟩ := HT3.out.below hb4; have HY : Hid (stI S g sg = 2) := Lib.hid (by unfold stI; rw [if_neg (by omega)]); have co := lopen_any hbo.plg; clear cd hb4 hbo)
    | (go_at_call 10; (with_reducible refine co.mono ?_); rintro e w5 ⟨rfl, hb5⟩; have HB45 := Lib.hid hb5; have HB5 := Lib.hid (HB4.out.trans (hb5.mono HB4.out.size)); clear co hb5))
  have hbd : Below w4.heap.size w4 w5.drew := HB45.out.drew
  have HBD := Lib.hid hbd
  have HPD := Lib.hid (HBO.out.plg.below hbd)
  have HRD := Lib.hid (HBO.out.rlg.below hbd)
  have ht5 := HRD.out.told15
  have HP0 : Hid (w5.drew.cell? ⟨gb, 0, none⟩ = some (.pointer (some ⟨xb, 0, none⟩)) ∧ w5.drew.cell? ⟨gb, 2, none⟩ = some (.int .i64 g.op) ∧ w5.drew.cell? ⟨gb, 3, none⟩ = some (.int .i64 g.page) ∧ w5.drew.cell? ⟨gb, 4, none⟩ = some (.int .u64 g.next)) := Lib.hid ⟨ht5.c0, ht5.c2, ht5.c3, ht5.c4⟩
  have cdv := device_any HPD.out
  have cli := like_any HPD.out.dev HRD.out.rdv HML.out
  obtain ⟨mc, hmc⟩ : ∃ mc, mc = cnt st g.st := ⟨_, rfl⟩
  have HMC := Lib.hid hmc
  have HB6B := HB5
  clear hbd ht5 hmc
  go_region_held3 (fun W => W.cell? ⟨gb, 0, none⟩ = some (.pointer (some ⟨xb, 0, none⟩)) ∧ W.cell? ⟨gb, 2, none⟩ = some (.int .i64 g.op) ∧ W.cell? ⟨gb, 3, none⟩ = some (.int .i64 g.page) ∧ W.cell? ⟨gb, 4, none⟩ = some (.int .u64 g.next))
    (first | exact HP0.out | exact HP6.out | exact HP7.out | exact HP8.out)
    ((first
      | (go_at_call 12; (with_reducible refine cdv.mono ?_); rintro e wx ⟨rfl, rfl⟩; clear cdv)
      | (go_at_call 11; (with_reducible refine cli.mono ?_); rintro e w6 ⟨rfl, hb6⟩; have HB6 := Lib.hid (HB5.out.drew.trans (hb6.mono HB5.out.size)); have HP6d := Lib.hid (HPD.out.below hb6); have HR6d := Lib.hid (HRD.out.below hb6); have ht6 := HR6d.out.told15; have HP6 : Hid (w6.cell? ⟨gb, 0, none⟩ = some (.pointer (some ⟨xb, 0, none⟩)) ∧ w6.cell? ⟨gb, 2, none⟩ = some (.int .i64 g.op) ∧ w6.cell? ⟨gb, 3, none⟩ = some (.int .i64 g.page) ∧ w6.cell? ⟨gb, 4, none⟩ = some (.int .u64 g.next)) := Lib.hid ⟨ht6.c0, ht6.c2, ht6.c3, ht6.c4⟩; have cst := state_any HP6d.out sg; rw [HY.out] at cst; clear cli hb6 ht6)
      | (go_at_call 13; (with_reducible refine cst.mono ?_); rintro e w7 ⟨rfl, hb7⟩; have HB7 := Lib.hid (HB6.out.trans (hb7.mono HB6.out.size)); have HP7d := Lib.hid (HP6d.out.below hb7); have HR7d := Lib.hid (HR6d.out.below hb7); have ht7 := HR7d.out.told15; have HP7 : Hid (w7.cell? ⟨gb, 0, none⟩ = some (.pointer (some ⟨xb, 0, none⟩)) ∧ w7.cell? ⟨gb, 2, none⟩ = some (.int .i64 g.op) ∧ w7.cell? ⟨gb, 3, none⟩ = some (.int .i64 g.page) ∧ w7.cell? ⟨gb, 4, none⟩ = some (.int .u64 g.next)) := Lib.hid ⟨ht7.c0, ht7.c2, ht7.c3, ht7.c4⟩; have cco := count_any HP7d.out st; rw [← HMC.out] at cco; clear cst hb7 ht7)
      | (go_at_call 14; (with_reducible refine cco.mono ?_); rintro e w8 ⟨rfl, hb8⟩; have HB8 := Lib.hid (HB7.out.trans (hb8.mono HB7.out.size)); have HP8d := Lib.hid (HP7d.out.below hb8); have HR8d := Lib.hid (HR7d.out.below hb8); have ht8 := HR8d.out.told15; have HP8 : Hid (w8.cell? ⟨gb, 0, none⟩ = some (.pointer (some ⟨xb, 0, none⟩)) ∧ w8.cell? ⟨gb, 2, none⟩ = some (.int .i64 g.op) ∧ w8.cell? ⟨gb, 3, none⟩ = some (.int .i64 g.page) ∧ w8.cell? ⟨gb, 4, none⟩ = some (.int .u64 g.next)) := Lib.hid ⟨ht8.c0, ht8.c2, ht8.c3, ht8.c4⟩; have crc := refCount_any HR8d.out st; rw [← HMC.out] at crc; have cnx := lnext_any HP8d.out; clear cco hb8 ht8)
      | (go_at_call 15; (with_reducible refine crc.mono ?_); rintro e wy ⟨rfl, rfl⟩; clear crc)
      | (go_at_call 16; (with_reducible refine cnx.mono ?_); rintro e wz ⟨rfl, rfl⟩; clear cnx)))
  all_goals
    go_wp2
    go_ret
    exact ⟨rfl, HB8.out⟩
set_option maxHeartbeats 8000000 in
theorem does_yes_far (S P B : Nat) (hshp : Shp S P B) (h4 : 4 ≤ S) (sg : Int) (hsg : (S : Int) ≤ sg) (st : Int) (h : Lds w w.heap.size A n L) (hnc : n ≤ c) (hc : c ≤ maxLen) (hf : fewL L = true) (hwf : ∀ d ∈ L, d.Wf) :
    Calls Try.prog 3 #[.agg #[.int .i64 S, .int .i64 P, .int .i64 B], .slice A n c, .int .i64 sg, .int .i64 st] w (Yes15 w) := by
  have hb0 := below_new4 w (.cells #[.int .i64 S, .int .i64 P, .int .i64 B] 23)
  have t3 := Three.new w (.int .i64 S) (.int .i64 P) (.int .i64 B) 23
  have T3 := Lib.hid t3
  have ca := lawake_any (w.alloc (.cells #[.int .i64 S, .int .i64 P, .int .i64 B] 23))
  have HS := Lib.hid h
  have HFW := Lib.hid (fun W (hb : Below w.heap.size w W) => fewL_any A n c L W ((HS.out.below hb).mono hb.size) (Nat.le_trans hnc hc))
  rw [hf] at HFW
  have HMY := Lib.hid (fun W => may_any S P B W)
  rw [hshp.ofB, Bool.true_and, decide_eq_true (by omega : (4 : Int) ≤ (S : Int))] at HMY
  have HSP := Lib.hid hshp
  have H4 := Lib.hid h4
  have HWF := Lib.hid hwf
  have HF := Lib.hid hf
  have hlen := ldeeds_good (S := S) (P := P) hshp.b1 L (fewL_all hf).1
  have hl60 := (fewL_all hf).2
  obtain ⟨g, hg⟩ : ∃ g, g = ldeeds S P B L := ⟨_, rfl⟩
  rw [← hg] at hlen
  have HGE := Lib.hid hg
  have hML : g.M.length ≤ 100000 := by have := hlen.len; omega
  have HML := Lib.hid hML
  have hs16 := hshp.s2
  unfold Yes15
  clear h hf t3 hshp hwf hg hlen hML
  have e0 : decide ((0 : Int) ≤ sg) = true := decide_eq_true (by omega)
  have e1 : decide (sg < (S : Int)) = false := decide_eq_false (by omega)
  go_enter Try.func3, Try.ntmps3
  go_wp2_with (first
    | (go_at_call 4; (with_reducible refine ca.mono ?_); rintro e w1 ⟨rfl, hb1⟩; have HB1 := Lib.hid (hb0.trans (hb1.mono hb0.size)); have HT1 := Lib.hid (T3.out.below hb1); have cf := HFW.out _ HB1.out; clear ca hb1)
    | (go_at_call 5; (with_reducible refine cf.mono ?_); rintro e w2 ⟨rfl, hb2⟩; have HB2 := Lib.hid (HB1.out.trans (hb2.mono HB1.out.size)); have HT2 := Lib.hid (HT1.out.below hb2); obtain ⟨-, k0, k1, k2, -⟩ := HT2.out; have cm := HMY.out w2; clear cf hb2)
    | (go_at_call 6; (with_reducible refine cm.mono ?_); rintro e w3 ⟨rfl, hb3⟩; have HB3 := Lib.hid (HB2.out.trans (hb3.mono HB2.out.size)); have HT3 := Lib.hid (HT2.out.below hb3); obtain ⟨-, l0, l1, l2, -⟩ := HT3.out; have cd := lmade_any HSP.out H4.out A n c L ((HS.out.below HB3.out).mono HB3.out.size) HF.out HWF.out; rw [← HGE.out] at cd; clear cm hb3)
    | (go_at_call 9; (with_reducible refine cd.mono ?_); rintro e w4 ⟨lb, db, mb, gb, xb, v4, rfl, hbo, hb4⟩; have HB4 := Lib.hid (HB3.out.trans (hb4.mono HB3.out.size)); have HBO := Lib.hid hbo; obtain ⟨-, m0, m1, m2, -⟩ := HT3.out.below hb4; have HY : Hid (stI S g sg = 2) := Lib.hid (by unfold stI; rw [if_neg (by omega)]); have co := lopen_any hbo.plg; clear cd hb4 hbo)
    | (go_at_call 10; (with_reducible refine co.mono ?_); rintro e w5 ⟨rfl, hb5⟩; have HB45 := Lib.hid hb5; have HB5 := Lib.hid (HB4.out.trans (hb5.mono HB4.out.size)); clear co hb5))
  have hbd : Below w4.heap.size w4 w5.drew := HB45.out.drew
  have HBD := Lib.hid hbd
  have HPD := Lib.hid (HBO.out.plg.below hbd)
  have HRD := Lib.hid (HBO.out.rlg.below hbd)
  have ht5 := HRD.out.told15
  have HP0 : Hid (w5.drew.cell? ⟨gb, 0, none⟩ = some (.pointer (some ⟨xb, 0, none⟩)) ∧ w5.drew.cell? ⟨gb, 2, none⟩ = some (.int .i64 g.op) ∧ w5.drew.cell? ⟨gb, 3, none⟩ = some (.int .i64 g.page) ∧ w5.drew.cell? ⟨gb, 4, none⟩ = some (.int .u64 g.next)) := Lib.hid ⟨ht5.c0, ht5.c2, ht5.c3, ht5.c4⟩
  have cdv := device_any HPD.out
  have cli := like_any HPD.out.dev HRD.out.rdv HML.out
  obtain ⟨mc, hmc⟩ : ∃ mc, mc = cnt st g.st := ⟨_, rfl⟩
  have HMC := Lib.hid hmc
  have HB6B := HB5
  clear hbd ht5 hmc
  go_region_held3 (fun W => W.cell? ⟨gb, 0, none⟩ = some (.pointer (some ⟨xb, 0, none⟩)) ∧ W.cell? ⟨gb, 2, none⟩ = some (.int .i64 g.op) ∧ W.cell? ⟨gb, 3, none⟩ = some (.int .i64 g.page) ∧ W.cell? ⟨gb, 4, none⟩ = some (.int .u64 g.next))
    (first | exact HP0.out | exact HP6.out | exact HP7.out | exact HP8.out)
    ((first
      | (go_at_call 12; (with_reducible refine cdv.mono ?_); rintro e wx ⟨rfl, rfl⟩; clear cdv)
      | (go_at_call 11; (with_reducible refine cli.mono ?_); rintro e w6 ⟨rfl, hb6⟩; have HB6 := Lib.hid (HB5.out.drew.trans (hb6.mono HB5.out.size)); have HP6d := Lib.hid (HPD.out.below hb6); have HR6d := Lib.hid (HRD.out.below hb6); have ht6 := HR6d.out.told15; have HP6 : Hid (w6.cell? ⟨gb, 0, none⟩ = some (.pointer (some ⟨xb, 0, none⟩)) ∧ w6.cell? ⟨gb, 2, none⟩ = some (.int .i64 g.op) ∧ w6.cell? ⟨gb, 3, none⟩ = some (.int .i64 g.page) ∧ w6.cell? ⟨gb, 4, none⟩ = some (.int .u64 g.next)) := Lib.hid ⟨ht6.c0, ht6.c2, ht6.c3, ht6.c4⟩; have cst := state_any HP6d.out sg; rw [HY.out] at cst; clear cli hb6 ht6)
      | (go_at_call 13; (with_reducible refine cst.mono ?_); rintro e w7 ⟨rfl, hb7⟩; have HB7 := Lib.hid (HB6.out.trans (hb7.mono HB6.out.size)); have HP7d := Lib.hid (HP6d.out.below hb7); have HR7d := Lib.hid (HR6d.out.below hb7); have ht7 := HR7d.out.told15; have HP7 : Hid (w7.cell? ⟨gb, 0, none⟩ = some (.pointer (some ⟨xb, 0, none⟩)) ∧ w7.cell? ⟨gb, 2, none⟩ = some (.int .i64 g.op) ∧ w7.cell? ⟨gb, 3, none⟩ = some (.int .i64 g.page) ∧ w7.cell? ⟨gb, 4, none⟩ = some (.int .u64 g.next)) := Lib.hid ⟨ht7.c0, ht7.c2, ht7.c3, ht7.c4⟩; have cco := count_any HP7d.out st; rw [← HMC.out] at cco; clear cst hb7 ht7)
      | (go_at_call 14; (with_reducible refine cco.mono ?_); rintro e w8 ⟨rfl, hb8⟩; have HB8 := Lib.hid (HB7.out.trans (hb8.mono HB7.out.size)); have HP8d := Lib.hid (HP7d.out.below hb8); have HR8d := Lib.hid (HR7d.out.below hb8); have ht8 := HR8d.out.told15; have HP8 : Hid (w8.cell? ⟨gb, 0, none⟩ = some (.pointer (some ⟨xb, 0, none⟩)) ∧ w8.cell? ⟨gb, 2, none⟩ = some (.int .i64 g.op) ∧ w8.cell? ⟨gb, 3, none⟩ = some (.int .i64 g.page) ∧ w8.cell? ⟨gb, 4, none⟩ = some (.int .u64 g.next)) := Lib.hid ⟨ht8.c0, ht8.c2, ht8.c3, ht8.c4⟩; have crc := refCount_any HR8d.out st; rw [← HMC.out] at crc; have cnx := lnext_any HP8d.out; clear cco hb8 ht8)
      | (go_at_call 15; (with_reducible refine crc.mono ?_); rintro e wy ⟨rfl, rfl⟩; clear crc)
      | (go_at_call 16; (with_reducible refine cnx.mono ?_); rintro e wz ⟨rfl, rfl⟩; clear cnx)))
  all_goals
    go_wp2
    go_ret
    exact ⟨rfl, HB8.out⟩
theorem seglogDoes_walk (s p b : Int) (A : Option Addr) (n c : Nat) (L : List Ld) (sg st : Int) (w : World) (h : Lds w w.heap.size A n L) (hnc : n ≤ c) (hc : c ≤ maxLen) (hwf : ∀ d ∈ L, d.Wf) (_ : -9223372036854775808 ≤ sg) (_ : sg ≤ 9223372036854775807) (_ : -9223372036854775808 ≤ st) (_ : st ≤ 9223372036854775807) :
    Calls Try.prog 3 #[.agg #[.int .i64 s, .int .i64 p, .int .i64 b], .slice A n c, .int .i64 sg, .int .i64 st] w (Yes15 w) := by
  cases hf : fewL L with
  | false => exact does_many s p b sg st h hnc hc hf
  | true =>
    cases hm : (shpB s p b && decide (4 ≤ s)) with
    | false => exact does_none s p b sg st h hnc hc hf hm
    | true =>
      rw [Bool.and_eq_true, decide_eq_true_eq] at hm
      obtain ⟨S, P, B, rfl, rfl, rfl, hshp⟩ := shp_of15 hm.1
      have h4 : 4 ≤ S := by have := hm.2; omega
      by_cases h0 : sg < 0
      · exact does_yes_neg S P B hshp h4 sg h0 st h hnc hc hf hwf
      · by_cases h1 : (S : Int) ≤ sg
        · exact does_yes_far S P B hshp h4 sg h1 st h hnc hc hf hwf
        · obtain ⟨j, rfl⟩ : ∃ j : Nat, sg = j := ⟨sg.toNat, by omega⟩
          exact does_yes_in S P B hshp h4 j (by omega) st h hnc hc hf hwf
end
end Go.Proofs.YtndbjdnfibpicaaR
