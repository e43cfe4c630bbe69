/-
  The program's log: Seal, Sync, Erase.
-/
import Derived.Test.YtndbjdnfibpicaaRLogSmall
import Derived.Test.YtndbjdnfibpicaaRFlashErase
namespace Go.Proofs.YtndbjdnfibpicaaR
open Go.ChangeShapes Go.WideShapes Go.ChangeAt Go.RowKit Fl Lo
set_option maxRecDepth 100000

section
variable {S P B lb db mb k : Nat} {w w' : World} {v v' : Nat → Nat} {g g' : Lg} {M : List Pg} {st : List Int} {pg : Int} {next : Nat}
/-- the log's own block is another one -/
theorem Plg.turn (h : Plg w v S P B lb db mb g) (hs : Stp 3 w w' v v') (hM : g'.M = g.M) (hi : Inv S P B g') (hb : ∃ pg, Lb w' lb db g'.st pg g'.next ∧ (0 ≤ g'.op → pg = g'.page)) : Plg w' v' S P B lb db mb g' := by
  obtain ⟨pg, h1, _⟩ := h.blk
  exact ⟨hi, h.s4, by rw [hM]; exact h.dev.other hs (by omega) (by omega), by rw [hs.same _ h1.lt]; exact h.vl, hb⟩
/-- a block of its own, of another colour -/
theorem Plg.box (h : Plg w v S P B lb db mb g) (o : Obj) (c : Nat) : Plg (w.alloc o) (paint v w.heap.size c) S P B lb db mb g ∧ Stp c w (w.alloc o) v (paint v w.heap.size c) :=
  ⟨h.ms (K := fun k => k = 2) (Ms.one (k := 2) rfl ((Stp.below (below_new4 w o) h.fr).paint c (Nat.le_refl _) (by simp))) (by omega) (by omega) (by omega), (Stp.below (below_new4 w o) h.fr).paint c (Nat.le_refl _) (by simp)⟩
theorem seal_at (hl : Lb w lb db st pg next) (hd : Dev w v 1 S P B db mb M) (hlen : st.length = S) {o : Int} (hix : ixI 1 st = o) (ho : o = -1 ∨ (0 ≤ o ∧ o < (S : Int))) (hv : v lb = 3) :
    Calls Try.prog 29 #[.pointer (some ⟨lb, 0, none⟩)] w fun e w' => e = .returned (.tuple #[]) ∧ Lb w' lb db (if 0 ≤ o then st.set o.toNat 2 else st) pg next ∧ Stp 3 w w' v v := by
  have HL := Lib.hid hl
  have HF := Lib.hid hd.fr
  rcases ho with rfl | ⟨h0, h1⟩
  · have co := open_at hl hd hlen hix (.inl ⟨rfl, rfl⟩)
    rw [if_neg (by omega)]
    clear hl hd hlen hix
    go_enter Try.func29, Try.ntmps29
    go_wp2_with (go_at_call 10; (with_reducible refine co.mono ?_); rintro e w1 ⟨rfl, hb1⟩; have HB1 := Lib.hid hb1; clear hb1 co)
    go_end0
    exact ⟨rfl, HL.out.kept (HB1.out.block lb HL.out.lt), Stp.below HB1.out HF.out⟩
  · obtain ⟨j, rfl⟩ : ∃ j : Nat, o = j := ⟨o.toNat, by omega⟩
    have co := open_at hl hd hlen hix (.inr ⟨h0, rfl⟩)
    have hjl : j < st.length := by omega
    have HJ := Lib.hid hjl
    rw [if_pos h0, Int.toNat_natCast]
    have HG := Lib.hid (List.getElem?_eq_getElem hjl)
    generalize st[j] = y at HG
    have e0 : decide ((0 : Int) ≤ (j : Int)) = true := decide_eq_true h0
    have hS2 := hd.shp.s2
    clear hl hd hlen hix hjl
    go_enter Try.func29, Try.ntmps29
    go_wp2_with (go_at_call 10; (with_reducible refine co.mono ?_); rintro e w1 ⟨rfl, hb1⟩; have HB1 := Lib.hid hb1; have hl1 := HL.out.kept (hb1.block lb HL.out.lt); have HL1 := Lib.hid hl1; have cx := hl1.cst HG.out; have fx := hl1.froz (1 + j); clear hb1 co hl1)
    go_end0
    exact ⟨rfl, HL1.out.setSt HJ.out 2, (Stp.below HB1.out HF.out).trans (Stp.setCell (a := ⟨lb, 1 + j, none⟩) hv _ (HF.out.below HB1.out))⟩
theorem lseal_any (h : Plg w v S P B lb db mb g) : Calls Try.prog 29 #[.pointer (some ⟨lb, 0, none⟩)] w fun e w' => e = .returned (.tuple #[]) ∧ Plg w' v S P B lb db mb (sealG g) ∧ Ms K13 w v w' v := by
  obtain ⟨pg, hl, hpg⟩ := h.blk
  have ho : g.op = -1 ∨ (0 ≤ g.op ∧ g.op < (S : Int)) := by
    rcases (by omega : g.op < 0 ∨ 0 ≤ g.op) with h0 | h0
    · exact .inl (h.inv.noneO h0).1
    · exact .inr ⟨h0, h.inv.opS h0⟩
  refine (seal_at hl h.dev h.inv.len h.inv.ix1 ho h.vl).mono ?_
  rintro e w' ⟨rfl, h1, h2⟩
  refine ⟨rfl, h.turn h2 rfl h.inv.sealG ⟨pg, h1, fun h0 => absurd h0 (by show ¬ (0 : Int) ≤ -1; omega)⟩, Ms.one (k := 3) (by unfold K13; omega) h2⟩
theorem lsync_any (h : Plg w v S P B lb db mb g) : Calls Try.prog 31 #[.pointer (some ⟨lb, 0, none⟩)] w fun e w' => e = .returned (.tuple #[]) ∧ Plg w' v S P B lb db mb (syncG g) ∧ Ms K13 w v w' v := by
  have cd := device_any h
  have cs := sync_any h.dev (by omega)
  have HP := Lib.hid h
  clear h
  go_enter Try.func31, Try.ntmps31
  go_wp2_with (first
    | (go_at_call 12; (with_reducible refine cd.mono ?_); rintro e w1 ⟨rfl, rfl⟩; clear cd)
    | (go_at_call 53; (with_reducible refine cs.mono ?_); rintro e w2 ⟨rfl, hD, hS⟩; have HD := Lib.hid hD; have HS := Lib.hid hS; clear cs hD hS))
  go_end0
  obtain ⟨pg, hl, hpg⟩ := HP.out.blk
  exact ⟨rfl, ⟨HP.out.inv.sync, HP.out.s4, HD.out, HP.out.vl, pg, hl.kept (HS.out.block lb hl.lt (by rw [HP.out.vl]; omega)), hpg⟩, Ms.one (k := 1) (by unfold K13; omega) HS.out⟩
theorem stI_one (h : Plg w v S P B lb db mb g) (s : Int) : (stI S g s == 1) = decide (0 ≤ s ∧ s < (S : Int) ∧ g.op = s) := by
  unfold stI
  rw [Bool.eq_iff_iff]
  simp only [beq_iff_eq, decide_eq_true_eq]
  by_cases hin : 0 ≤ s ∧ s < (S : Int)
  · rw [if_pos hin]
    have hj : s.toNat < g.st.length := by rw [h.inv.len]; omega
    rw [List.getD_eq_getElem?_getD, List.getElem?_eq_getElem hj, Option.getD_some]
    constructor
    · intro e
      have e2 : g.st[s.toNat]? = some 1 := by rw [List.getElem?_eq_getElem hj, e]
      rcases (by omega : g.op < 0 ∨ 0 ≤ g.op) with h0 | h0
      · exact absurd e2 ((h.inv.noneO h0).2.2 _)
      · have := (h.inv.someO h0).2.1 _ e2
        exact ⟨hin.1, hin.2, by omega⟩
    · rintro ⟨_, _, rfl⟩
      have e2 := (h.inv.someO hin.1).1
      rw [List.getElem?_eq_getElem hj] at e2
      injection e2
  · rw [if_neg hin]
    constructor
    · intro e; omega
    · intro e; omega
theorem lerase_any (h : Plg w v S P B lb db mb g) (s : Int) (hs : W64 s) (hM : g.M.length ≤ 90000) : Calls Try.prog 27 #[.pointer (some ⟨lb, 0, none⟩), .int .i64 s] w fun e w' => e = .returned (.int .i64 (eraseErr S s g)) ∧ Plg w' v S P B lb db mb (eraseG S s g) ∧ Ms K13 w v w' v := by
  have cs := state_any h s
  have e1 := stI_one h s
  have HP := Lib.hid h
  have HI := Lib.hid (h.inv.erase s)
  generalize stI S g s = x at cs e1
  unfold eraseErr
  by_cases hin : 0 ≤ s ∧ s < (S : Int)
  · rw [if_pos hin]
    by_cases ho : g.op = s
    · rw [if_pos ho]
      rw [decide_eq_true ⟨hin.1, hin.2, ho⟩] at e1
      have HE : Hid (eraseG S s g = g) := Lib.hid (by unfold eraseG eraseErr; rw [if_pos hin, if_pos ho, if_neg (by omega)])
      clear h hin ho
      go_enter Try.func27, Try.ntmps27
      go_wp2_with (go_at_call 13; (with_reducible refine cs.mono ?_); rintro e w1 ⟨rfl, hb1⟩; have HB1 := Lib.hid hb1; clear hb1 cs)
      go_ret
      exact ⟨rfl, by rw [HE.out]; exact HP.out.below HB1.out, Ms.one (k := 3) (by unfold K13; omega) (Stp.below HB1.out HP.out.fr)⟩
    · rw [if_neg ho]
      rw [decide_eq_false (fun h => ho h.2.2)] at e1
      obtain ⟨j, rfl⟩ : ∃ j : Nat, s = j := ⟨s.toNat, by omega⟩
      have HE : Hid (eraseG S (j : Int) g = { g with st := g.st.set j 0, M := erase (j : Int) g.M }) := Lib.hid (by unfold eraseG eraseErr; rw [if_pos hin, if_neg ho, if_pos rfl, Int.toNat_natCast])
      rw [HE.out]
      rw [HE.out] at HI
      have hj : j < g.st.length := by rw [h.inv.len]; omega
      have HJ := Lib.hid hj
      have HG := Lib.hid (List.getElem?_eq_getElem hj)
      generalize g.st[j] = y at HG
      have hS2 := h.inv.shp.s2
      have HIN := Lib.hid hin
      have HWS := Lib.hid hs
      have hj16 : (j : Int) < 16 := by omega
      clear h ho hj HE hs hin
      go_enter Try.func27, Try.ntmps27
      go_wp2_with (first
        | (go_at_call 13; (with_reducible refine cs.mono ?_); rintro e w1 ⟨rfl, hb1⟩; have HB1 := Lib.hid hb1; have HP1 := Lib.hid (HP.out.below hb1); have cd := device_any HP1.out; clear hb1 cs)
        | (go_at_call 12; (with_reducible refine cd.mono ?_); rintro e w2 ⟨rfl, rfl⟩; have ce := erase_in HP1.out.dev (by omega) (j : Int) HWS.out HIN.out (by omega); clear cd)
        | (go_at_call 22; (with_reducible refine ce.mono ?_); rintro e w3 ⟨rfl, hD3, hS3⟩; have HD3 := Lib.hid hD3; have HS3 := Lib.hid hS3; obtain ⟨pg, hl, hpg⟩ := HP1.out.blk; have hl3 := hl.kept (hS3.block lb hl.lt (by rw [HP.out.vl]; omega)); have HL3 := Lib.hid hl3; have HPG := Lib.hid hpg; have cx := hl3.cst HG.out; have fx := hl3.froz (1 + j); clear ce hD3 hS3 hl hl3 hpg))
      go_ret
      have st3 : Stp 3 w3 (w3.setCell ⟨lb, 1 + j, none⟩ (.int .i64 0)) v v := Stp.setCell (a := ⟨lb, 1 + j, none⟩) HP.out.vl _ HD3.out.fr
      exact ⟨rfl, ⟨HI.out, HP.out.s4, HD3.out.other st3 (by omega) (by omega), HP.out.vl, pg, HL3.out.setSt HJ.out 0, HPG.out⟩,
        ((Ms.one (k := 3) (by unfold K13; omega) (Stp.below HB1.out HP.out.fr)).step (k := 1) (by unfold K13; omega) HS3.out).step (k := 3) (by unfold K13; omega) st3⟩
  · rw [if_neg hin]
    rw [decide_eq_false (fun h => hin ⟨h.1, h.2.1⟩)] at e1
    have HE : Hid (eraseG S s g = g) := Lib.hid (by unfold eraseG eraseErr; rw [if_neg hin, if_neg (by omega)])
    have HIN := Lib.hid hin
    clear h hin
    go_enter Try.func27, Try.ntmps27
    go_wp2_with (first
      | (go_at_call 13; (with_reducible refine cs.mono ?_); rintro e w1 ⟨rfl, hb1⟩; have HB1 := Lib.hid hb1; have HP1 := Lib.hid (HP.out.below hb1); have cd := device_any HP1.out; clear hb1 cs)
      | (go_at_call 12; (with_reducible refine cd.mono ?_); rintro e w2 ⟨rfl, rfl⟩; have ce := erase_out HP1.out.dev s HIN.out; clear cd)
      | (go_at_call 22; (with_reducible refine ce.mono ?_); rintro e w3 ⟨rfl, hb3⟩; have HB3 := Lib.hid (HB1.out.trans (hb3.mono HB1.out.size)); clear ce hb3))
    go_ret
    exact ⟨rfl, by rw [HE.out]; exact HP.out.below HB3.out, Ms.one (k := 3) (by unfold K13; omega) (Stp.below HB3.out HP.out.fr)⟩
end
end Go.Proofs.YtndbjdnfibpicaaR
