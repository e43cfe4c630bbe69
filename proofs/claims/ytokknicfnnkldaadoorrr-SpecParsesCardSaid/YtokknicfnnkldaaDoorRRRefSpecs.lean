/-
  Contract of the document's own Specs: the specs of a field, or the error.
-/
import Derived.Test.YtokknicfnnkldaaDoorRRSpecParse
import Derived.Test.YtokknicfnnkldaaDoorRRRefOne
import Derived.Test.YtokknicfnnkldaaDoorRRRefLower
import Derived.Test.YtokknicfnnkldaaDoorRRAppendCells
import Derived.Deep.DeepCutAuto
namespace Go.Proofs.YtokknicfnnkldaaDoorRR
open Go.ChangeShapes Go.WideShapes Go.ChangeAt Go.RowKit

theorem givesSpecs_row {p : List (Int × Int × Int) × Int} {A : Option Addr} {n c : Nat} {L : List (Int × Int × Int)} {w w' : World} (h : (L, 0) = p) (hv : Vs w' w'.heap.size A (n * 3) (flat L)) (hc : n ≤ c) (hb : Below w.heap.size w w') :
    GivesSpecs p w (.returned (.tuple #[.slice A n c, .int .i64 0])) w' := by
  subst h
  exact ⟨_, _, _, rfl, hv, hc, hb⟩
/-- kept behind names: a walk would rewrite 'true = true' -/
def Meets (b : Bool) (ps : List (List UInt8)) : Prop := b = true ↔ Fine ps ps.length ps.length
def Picked (b : Bool) (ps : List (List UInt8)) : List (List UInt8) := if b = true then Tx.pick ps else []
theorem givesIf_cut {ps : List (List UInt8)} {b : Bool} {w w' : World} {e : Ending} (h : GivesIf ps b w e w') :
    ∃ A n c, e = .returned (.tuple #[.slice A n c, .bool b]) ∧ Hid (Vs w' w'.heap.size A n (strs (Picked b ps))) ∧ n ≤ c ∧ Below w.heap.size w w' := h

set_option maxHeartbeats 4000000 in
theorem refSpecs_bad (s T A B U : ByteArray) (is q b z : Bool) (ps L : List (List UInt8)) (w : World)
    (ct : ∀ W, Calls Tryd.prog 12 #[.string s, .bool false] W fun e w' => e = .returned (.string T) ∧ W = w')
    (cc : ∀ W, Calls Tryd.prog 11 #[.string T, .int .u8 61] W fun e w' => e = .returned (.tuple #[.string A, .string B, .bool is]) ∧ Below W.heap.size W w')
    (cp : ∀ W, Calls Tryd.prog 14 #[.string B, .bool false] W (GivesRow ps W))
    (cw : ∀ W, Calls Tryd.prog 15 #[.string A] W fun e w' => e = .returned (.string U) ∧ Below W.heap.size W w')
    (hF : Meets b ps) (hP : ∀ p ∈ ps, p.length ≤ 1000000) (hN : ps.length ≤ 1000000) (hL : Picked b ps = L)
    (hq : (U.toList != ([98, 121, 116, 101, 115] : List UInt8)) = q) (hq2 : (U.toList == ([98, 121, 116, 101, 115] : List UInt8)) = !q) (hz : ((L.length : Int) == 0) = z) (hbad : (!is || (q || (!b || z))) = true) :
    Calls Tryd.prog 6 #[.string s] w (GivesSpecs ([], 3) w) := by
  have HF := Lib.hid hF
  have HP := Lib.hid hP
  have HL := Lib.hid hL
  obtain ⟨m, hm⟩ : ∃ m, m = L.length := ⟨_, rfl⟩
  rw [← hm] at hz
  have HM := Lib.hid hm
  have HN := Lib.hid hN
  clear hF hP hL hm hN
  have HB := Below.refl w.heap.size w
  cases is <;> cases q <;> cases b <;> cases z
  all_goals
    simp only [Bool.or_self, Bool.not_true, Bool.not_false, Bool.or_true, Bool.true_or, Bool.false_eq_true] at hbad
  all_goals
    simp only [Bool.not_true, Bool.not_false] at hq2
    go_enter Tryd.func6, Tryd.ntmps6
    go_wp2_with (first
      | (go_at_call 12; refine (ct _).mono ?_; rintro e w1 ⟨rfl, rfl⟩)
      | (go_at_call 11; refine (cc _).mono ?_; rintro e w1 ⟨rfl, hb⟩; replace HB := below_next3 HB hb; clear hb)
      | (go_at_call 14; refine (cp _).mono ?_; intro e w2 hg; obtain ⟨A2, n2, c2, rfl, hv2, hc2, hb⟩ := givesRow_cut hg; clear hg; obtain rfl : n2 = ps.length := by { have := hv2.out.1; rw [strs_length] at this; exact this.symm }; replace HB := below_next3 HB hb; clear hb)
      | (go_at_call 13; refine (refList_any A2 _ c2 w2.heap.size ps _ w2 hv2.out (Nat.le_refl _) HN.out HP.out HF.out).mono ?_; intro e w3 hg; obtain ⟨A3, n3, c3, rfl, hv3, hc3, hb⟩ := givesIf_cut hg; clear hg; obtain rfl : n3 = m := by { have := hv3.out.1; rw [strs_length, HL.out] at this; rw [HM.out]; exact this.symm }; replace HB := below_next3 HB hb; clear hb)
      | (go_at_call 15; refine (cw _).mono ?_; rintro e w1 ⟨rfl, hb⟩; replace HB := below_next3 HB hb; clear hb))
    go_ret2
    exact givesSpecs_nil rfl HB

set_option maxHeartbeats 4000000 in
theorem refSpecs_many (s T A B U : ByteArray) (ps L : List (List UInt8)) (w : World)
    (ct : ∀ W, Calls Tryd.prog 12 #[.string s, .bool false] W fun e w' => e = .returned (.string T) ∧ W = w')
    (cc : ∀ W, Calls Tryd.prog 11 #[.string T, .int .u8 61] W fun e w' => e = .returned (.tuple #[.string A, .string B, .bool true]) ∧ Below W.heap.size W w')
    (cp : ∀ W, Calls Tryd.prog 14 #[.string B, .bool false] W (GivesRow ps W))
    (cw : ∀ W, Calls Tryd.prog 15 #[.string A] W fun e w' => e = .returned (.string U) ∧ Below W.heap.size W w')
    (hF : Meets true ps) (hP : ∀ p ∈ ps, p.length ≤ 1000000) (hN : ps.length ≤ 1000000) (hL : Picked true ps = L) (hp : ∀ p ∈ L, p.length ≤ maxLen) (hL1 : L.length ≤ 1000000)
    (_hq : (U.toList != ([98, 121, 116, 101, 115] : List UInt8)) = false) (hq2 : (U.toList == ([98, 121, 116, 101, 115] : List UInt8)) = true) (h0 : 0 < L.length) :
    Calls Tryd.prog 6 #[.string s] w (GivesSpecs (Sp.many L) w) := by
  have HF := Lib.hid hF
  have HP := Lib.hid hP
  have HL := Lib.hid hL
  have HE := Lib.hid hp
  obtain ⟨m, hm⟩ : ∃ m, m = L.length := ⟨_, rfl⟩
  rw [← hm] at h0 hL1
  have HM := Lib.hid hm
  have HN := Lib.hid hN
  have hz : ((m : Int) == 0) = false := by rw [beq_eq_false_iff_ne]; omega
  obtain ⟨i0, hi, hiz, hsz, hby⟩ := spec_parts
  have HI := Lib.hid hi; have HZ := Lib.hid hiz; have HSZ := Lib.hid hsz; have HBY := Lib.hid hby
  clear hF hP hL hm hN hi hiz hsz hby hp
  have HB := Below.refl w.heap.size w
  go_enter Tryd.func6, Tryd.ntmps6
  go_wp2_with (first
    | (go_at_call 12; refine (ct _).mono ?_; rintro e w1 ⟨rfl, rfl⟩)
    | (go_at_call 11; refine (cc _).mono ?_; rintro e w1 ⟨rfl, hb⟩; replace HB := below_next3 HB hb; clear hb)
    | (go_at_call 14; refine (cp _).mono ?_; intro e w2 hg; obtain ⟨A2, n2, c2, rfl, hv2, hc2, hb⟩ := givesRow_cut hg; clear hg; obtain rfl : n2 = ps.length := by { have := hv2.out.1; rw [strs_length] at this; exact this.symm }; replace HB := below_next3 HB hb; clear hb)
    | (go_at_call 13; refine (refList_any A2 _ c2 w2.heap.size ps true w2 hv2.out (Nat.le_refl _) HN.out HP.out HF.out).mono ?_; intro e w3 hg; obtain ⟨A3, n3, c3, rfl, hv3, hc3, hb⟩ := givesIf_cut hg; clear hg; obtain rfl : n3 = m := by { have := hv3.out.1; rw [strs_length, HL.out] at this; rw [HM.out]; exact this.symm }; obtain ⟨b1, o1, rfl, hB1, hc1⟩ := hv3.out.2 h0; rw [HL.out] at hc1; have HC1 := Lib.hid hc1; clear hc1 hv3; replace HB := below_next3 HB hb; clear hb)
    | (go_at_call 15; refine (cw _).mono ?_; rintro e w4 ⟨rfl, hb⟩; have HB4 := hb; replace HB := below_next3 HB hb; clear hb))
  go_loopw [9, 10, 46] (fun v so si wr => ∃ (k : Nat) (ov : Bool), k ≤ n3 ∧ si = .int .i64 k ∧ so = .bool ov ∧ Hid (wr.ownsRow w4.heap.size 33 3 v k (flat ((L.take k).map (fun p => (Sp.one p).1)))) ∧ Hid (ov = Sp.Ov L k) ∧ Hid (Sp.Clean L k) ∧ Below w4.heap.size w4 wr) (fun _ _ si _ => n3 - (intOf si).toNat)
  case atStart => exact ⟨0, false, by omega, rfl, rfl, Lib.hid (World.ownsRow_nil _ _ _ _), Lib.hid rfl, Lib.hid rfl, Below.refl _ _⟩
  case round =>
    obtain ⟨k, ov, hk, rfl, rfl, HO, HV, HC, HBl⟩ := hrel
    clear hz ct cc cp cw _hq hq2
    by_cases hlt : k < n3
    · have hke : k < L.length := by rw [← HM.out]; exact hlt
      have hkl : k < (strs L).length := by rw [strs_length]; exact hke
      have e1 := (HBl.cell (p := ⟨b1, o1 + k, none⟩) (Nat.lt_of_lt_of_le hB1 HB4.size)).trans ((HB4.cell (p := ⟨b1, o1 + k, none⟩) hB1).trans (HC1.out k hkl))
      rw [strs_get L k hkl hke] at e1
      have co := fun W => refOne_any (Str L[k]) W (by rw [str_size]; exact HE.out _ (List.getElem_mem hke))
      rw [str_list] at co
      obtain ⟨x, hx⟩ : ∃ x, x = Str L[k] := ⟨_, rfl⟩
      rw [← hx] at e1 co
      obtain ⟨p, hpq⟩ : ∃ p, p = Sp.one L[k] := ⟨_, rfl⟩
      have hpe := Sp.one_err L[k]
      rw [← hpq] at co hpe
      obtain ⟨⟨pk, pf, pl⟩, pe⟩ := p
      have HPQ := Lib.hid hpq
      have HF1 : Hid (flat ((L.take k).map (fun p => (Sp.one p).1)) ++ [.int .i64 pk, .int .i64 pf, .int .i64 pl] = flat ((L.take (k + 1)).map (fun p => (Sp.one p).1))) := Lib.hid (by
        rw [Sp.take_one hke, List.map_append, ← flat_append, List.map_cons, List.map_nil, ← HPQ.out]
        rfl)
      clear hx hpq
      have hbsz := HBl.size
      by_cases h3 : pe = 3
      · subst h3
        have HM3 : Hid (([], 3) = Sp.many L) := Lib.hid (Sp.many_form hke (by rw [← HPQ.out])).symm
        go_wp2_with (go_at_call 16; refine (co _).mono ?_; intro e w5 hg; obtain ⟨rfl, hb5⟩ := specTo_cut hg; clear hg)
        go_ret2
        have h3 := (HBl.trans (hb5.mono HBl.size)).alloc (Nat.le_trans HBl.size hb5.size) (.cells #[.int .i64 pk, .int .i64 pf, .int .i64 pl] 33)
        exact givesSpecs_nil HM3.out (HB.trans (h3.mono HB.size))
      · obtain ⟨zb, hzb⟩ : ∃ zb, zb = (pe != 0) := ⟨_, rfl⟩
        have hpe' : pe = 0 ∨ pe = 9 := by
          rcases hpe with he | he | he
          · exact .inl he
          · exact absurd he h3
          · exact .inr he
        have h3b : (pe == 3) = false := beq_eq_false_iff_ne.2 h3
        have hz1 : (pe != 0) = zb := hzb.symm
        have hz2 : (pe == 0) = !zb := by rw [hzb]; simp [bne]
        have HO1 : Hid ((ov || zb) = Sp.Ov L (k + 1)) := Lib.hid (by
          rcases hpe' with he | he
          · rw [Sp.ov_same hke (by rw [← HPQ.out]; exact he), ← HV.out, hzb, he]; simp
          · rw [Sp.ov_more hke (by rw [← HPQ.out]; exact he), hzb, he]; simp)
        have HC2 : Hid (Sp.Clean L (k + 1)) := Lib.hid (Sp.clean_more hke (by rw [← HPQ.out]; exact hpe') HC.out)
        clear hpe hpe' h3 hzb
        go_upto_region 13 with (go_at_call 16; refine (co _).mono ?_; intro e w5 hg; obtain ⟨rfl, hb5⟩ := specTo_cut hg; clear hg; have HO5 := Lib.hid (own_belowN HO.out hb5); have HB5 := HBl.trans (hb5.mono HBl.size))
        go_cut [10] (fun s10 wx => s10 = .bool (ov || zb) ∧ wx = w5.alloc (.cells #[.int .i64 pk, .int .i64 pf, .int .i64 pl] 33))
        case first =>
          cases ov <;> cases zb
          all_goals
            go_wp2
            go_meet
            exact ⟨rfl, rfl⟩
        case rest =>
          obtain ⟨rfl, rfl⟩ := hcut
          clear hz1 hz2 h3b
          go_wp2_with (refine wpList_append_one (o := ⟨some 65, _, _, _, _, _⟩) rfl (.tmp 62) (.tmp 64) 23 rfl w4.heap.size 33 i0 (.agg #[.int .i64 0, .int .i64 0, .int .i64 0]) 3 24 Tryd.underlying23 HI.out HZ.out HSZ.out HBY.out rfl (by decide) _ k _ rfl ((HO5.out.alloc _).alloc _) ⟨w5.heap.size + 1, 0, none⟩ 1 [.int .i64 pk, .int .i64 pf, .int .i64 pl] rfl rfl (new_cells2 w5 _ _ #[.int .i64 pk, .int .i64 pf, .int .i64 pl]) (flat_one [(pk, pf, pl)]) (by omega) (by omega) ((HB5.alloc HB5.size _).alloc (HB5.alloc HB5.size _).size _).size ?_
                       intro v1 w6 HO6 HG6)
          go_roundw
          case rel =>
            have h1 := HB5.alloc HB5.size (.cells #[.int .i64 pk, .int .i64 pf, .int .i64 pl] 33)
            have h2 := h1.alloc h1.size (.cells #[.int .i64 pk, .int .i64 pf, .int .i64 pl] 33)
            exact ⟨k + 1, _, by omega, by go_num, rfl, Lib.hid (by rw [← HF1.out]; exact HO6.out), HO1, HC2, h2.grown HG6.out h2.size (fun k h => (HO.out.lt k h).1)⟩
          case measure => simp [intOf]; omega
    · obtain rfl : k = n3 := by omega
      have HKL : Hid (k = L.length) := Lib.hid HM.out
      obtain ⟨A9, cap, rfl, hv9, hcap⟩ := Vs.of_ownN HO.out
      have HV9 := Lib.hid hv9
      clear hv9
      cases ov with
      | true =>
        have HM3 : Hid (([], 9) = Sp.many L) := Lib.hid (Sp.many_over (by rw [← HKL.out]; exact HC.out) (by rw [← HKL.out]; exact HV.out.symm)).symm
        go_wp2
        go_ret2
        exact givesSpecs_nil HM3.out (HB.trans (HBl.mono HB.size))
      | false =>
        by_cases h16 : 16 < k
        · have HM3 : Hid (([], 10) = Sp.many L) := Lib.hid (Sp.many_long (by rw [← HKL.out]; exact HC.out) (by rw [← HKL.out]; exact HV.out.symm) (by rw [← HKL.out]; exact h16)).symm
          go_wp2
          go_ret2
          exact givesSpecs_nil HM3.out (HB.trans (HBl.mono HB.size))
        · have HM3 : Hid ((L.map (fun p => (Sp.one p).1), 0) = Sp.many L) := Lib.hid (Sp.many_fine (by rw [← HKL.out]; exact HC.out) (by rw [← HKL.out]; exact HV.out.symm) (by rw [← HKL.out]; omega)).symm
          have h16' : (k : Int) ≤ 16 := by omega
          have HV8 : Hid (Vs wr wr.heap.size A9 (k * 3) (flat (L.map (fun p => (Sp.one p).1)))) := Lib.hid (by
            have := HV9.out
            rwa [HKL.out, List.take_length, ← HKL.out] at this)
          go_wp2
          go_ret2
          exact givesSpecs_row HM3.out HV8.out hcap (HB.trans (HBl.mono HB.size))
end Go.Proofs.YtokknicfnnkldaaDoorRR
