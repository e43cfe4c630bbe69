/-
  Contract of spec.Parse: the specs of a field, or the error.
-/
import Derived.Test.YtokknicfnnkldaaDoorRRSpecs
import Derived.Test.YtokknicfnnkldaaDoorRRSpecElems
import Derived.IntWalk
namespace Go.Proofs.YtokknicfnnkldaaDoorRR
open Go.ChangeShapes Go.WideShapes Go.ChangeAt Go.RowKit

/-- a row of specs, and an error -/
def GivesSpecs (p : List (Int × Int × Int) × Int) (w : World) (e : Ending) (w' : World) : Prop :=
  ∃ A n c, e = .returned (.tuple #[.slice A n c, .int .i64 p.2]) ∧ Ss w' w'.heap.size A n p.1 ∧ n ≤ c ∧ Below w.heap.size w w'
theorem givesSpecs_nil {p : List (Int × Int × Int) × Int} {n : Int} {w w' : World} (h : ([], n) = p) (hb : Below w.heap.size w w') : GivesSpecs p w (.returned (.tuple #[.slice none 0 0, .int .i64 n])) w' := by
  subst h
  exact ⟨none, 0, 0, rfl, Ss.nil _ _ _, Nat.le_refl _, hb⟩
theorem givesSpecs_blk {p : List (Int × Int × Int) × Int} {T : TypeId} {g n : Nat} {L : List (Int × Int × Int)} {w w' : World} (h : (L, 0) = p) (hg : Blk3 T w' g L) (hn : L.length = n) (hb : Below w.heap.size w w') :
    GivesSpecs p w (.returned (.tuple #[.slice (some ⟨g, 0, none⟩) n n, .int .i64 0])) w' := by
  subst h hn
  exact ⟨_, _, _, rfl, hg.specs hg.lt, Nat.le_refl _, hb⟩
theorem specTo_cut {p : (Int × Int × Int) × Int} {w w' : World} {e : Ending} (h : SpecTo p w e w') :
    e = .returned (.tuple #[.agg #[.int .i64 p.1.1, .int .i64 p.1.2.1, .int .i64 p.1.2.2], .int .i64 p.2]) ∧ Below w.heap.size w w' := h
theorem givesRow_cut {L : List (List UInt8)} {w w' : World} {e : Ending} (h : GivesRow L w e w') :
    ∃ A n c, e = .returned (.slice A n c) ∧ Hid (Vs w' w'.heap.size A n (strs L)) ∧ n ≤ c ∧ Below w.heap.size w w' := h

theorem parse_none (s : ByteArray) (w : World) (ce : ∀ W, Calls Tryd.prog 9 #[.string s] W (GivesRow [] W)) :
    Calls Tryd.prog 5 #[.string s] w (GivesSpecs ([], 3) w) := by
  go_enter Tryd.func5, Tryd.ntmps5
  go_wp2_with (go_at_call 9; refine (ce _).mono ?_; intro e w1 hg; obtain ⟨A, n, c, rfl, hv, hc, hb⟩ := givesRow_cut hg; clear hg; obtain rfl : n = 0 := hv.out.1.symm)
  go_ret2
  exact givesSpecs_nil rfl hb

set_option maxHeartbeats 4000000 in
theorem parse_many (s : ByteArray) (es : List (List UInt8)) (w : World) (h0 : 0 < es.length) (hn : es.length ≤ 1000001) (hp : ∀ p ∈ es, p.length ≤ maxLen)
    (ce : ∀ W, Calls Tryd.prog 9 #[.string s] W (GivesRow es W)) :
    Calls Tryd.prog 5 #[.string s] w (GivesSpecs (Sp.many es) w) := by
  obtain ⟨m, hm⟩ : ∃ m, m = es.length := ⟨_, rfl⟩
  have hmk := fun W => make_specs m (by omega) W
  have HM := Lib.hid hm
  rw [← hm] at h0 hn
  have HP := Lib.hid hp
  clear hm hp
  have hz : ((m : Int) == 0) = false := by rw [beq_eq_false_iff_ne]; omega
  go_enter Tryd.func5, Tryd.ntmps5
  go_wp2_with (go_at_call 9; refine (ce _).mono ?_; intro e w1 hg; obtain ⟨A, n, c, rfl, hv, hc, hb⟩ := givesRow_cut hg; clear hg; obtain rfl : n = m := by { have := hv.out.1; rw [strs_length] at this; rw [HM.out]; exact this.symm }; obtain ⟨b1, o1, rfl, hB1, hc1⟩ := hv.out.2 h0; have HC1 := Lib.hid hc1; clear hc1 hv)
  go_loopw [6, 21] (fun so si wr => ∃ (k : Nat) (ov : Bool), k ≤ n ∧ si = .int .i64 k ∧ so = .bool ov ∧ Hid (ov = Sp.Ov es k) ∧ Hid (Sp.Clean es k) ∧ Hid (Blk3 33 wr w1.heap.size (Sp.Got es k)) ∧ Below w1.heap.size w1 wr) (fun _ si _ => n - (intOf si).toNat)
  case atStart => exact ⟨0, false, by omega, rfl, rfl, Lib.hid rfl, Lib.hid rfl, Lib.hid (by rw [Sp.got_none, ← HM.out]; exact Blk3.new _ _ _), (Below.refl _ _).alloc (Nat.le_refl _) _⟩
  case round =>
    obtain ⟨k, ov, hk, rfl, rfl, HO, HC, HG, HB⟩ := hrel
    clear hz hmk
    by_cases hlt : k < n
    · have hke : k < es.length := by rw [← HM.out]; exact hlt
      have hkl : k < (strs es).length := by rw [strs_length]; exact hke
      have e1 := (HB.cell (p := ⟨b1, o1 + k, none⟩) hB1).trans (HC1.out k hkl)
      rw [strs_get es k hkl hke] at e1
      have co := fun W => one_any (Str es[k]) W (by rw [str_size]; exact HP.out _ (List.getElem_mem hke))
      rw [str_list] at co
      obtain ⟨x, hx⟩ : ∃ x, x = Str es[k] := ⟨_, rfl⟩
      rw [← hx] at e1 co
      obtain ⟨p, hpq⟩ : ∃ p, p = Sp.one es[k] := ⟨_, rfl⟩
      have hpe := Sp.one_err es[k]
      rw [← hpq] at co hpe
      have HGL := Lib.hid (Sp.got_len (es := es) (k := k) (by omega))
      obtain ⟨⟨pk, pf, pl⟩, pe⟩ := p
      have HPQ := Lib.hid hpq
      clear hx hpq
      have HN1 : Hid ((Sp.Got es k).set k (pk, pf, pl) = Sp.Got es (k + 1)) := Lib.hid (by rw [← Sp.got_set hke, ← HPQ.out])
      rcases hpe with he | he | he
      · obtain rfl : pe = 0 := he
        have HO1 : Hid (ov = Sp.Ov es (k + 1)) := Lib.hid (by rw [Sp.ov_same hke (by rw [← HPQ.out]), HO.out])
        have HC2 : Hid (Sp.Clean es (k + 1)) := Lib.hid (Sp.clean_more hke (by rw [← HPQ.out]; exact .inl rfl) HC.out)
        cases ov
        all_goals
          go_wp2_with (go_at_call 10; refine (co _).mono ?_; intro e w2 hg; obtain ⟨rfl, hb2⟩ := specTo_cut hg; clear hg; have HG2 := Lib.hid (HG.out.below hb2 HG.out.lt); obtain ⟨y1, y2, y3, q1, q2, q3, f1, f2, f3⟩ := HG2.out.three (k := k) (by rw [HGL.out]; exact hke); have hgs := HG2.out.lt)
          go_roundw
          case rel =>
            have h3 := below_put3 (HB.trans (hb2.mono HB.size)) (Nat.le_refl _) (k * 3) (k * 3 + 1) (k * 3 + 2) (.int .i64 pk) (.int .i64 pf) (.int .i64 pl)
            have h4 := (HG2.out.put k (by rw [HGL.out]; exact hke) (pk, pf, pl)).alloc (.cells #[.int .i64 pk, .int .i64 pf, .int .i64 pl] 33)
            rw [HN1.out] at h4
            exact ⟨k + 1, _, by omega, by go_num, rfl, HO1, HC2, Lib.hid h4, h3.alloc h3.size _⟩
          case measure => simp [intOf]; omega
      · obtain rfl : pe = 3 := he
        have HM3 : Hid (([], 3) = Sp.many es) := Lib.hid (Sp.many_form hke (by rw [← HPQ.out])).symm
        go_wp2_with (go_at_call 10; refine (co _).mono ?_; intro e w2 hg; obtain ⟨rfl, hb2⟩ := specTo_cut hg; clear hg)
        go_ret2
        have h3 := (HB.trans (hb2.mono HB.size)).alloc (Nat.le_trans HB.size hb2.size) (.cells #[.int .i64 pk, .int .i64 pf, .int .i64 pl] 33)
        exact givesSpecs_nil HM3.out (hb.trans (h3.mono hb.size))
      · obtain rfl : pe = 9 := he
        have HO1 : Hid (true = Sp.Ov es (k + 1)) := Lib.hid (Sp.ov_more hke (by rw [← HPQ.out])).symm
        have HC2 : Hid (Sp.Clean es (k + 1)) := Lib.hid (Sp.clean_more hke (by rw [← HPQ.out]; exact .inr rfl) HC.out)
        cases ov
        all_goals
          go_wp2_with (go_at_call 10; refine (co _).mono ?_; intro e w2 hg; obtain ⟨rfl, hb2⟩ := specTo_cut hg; clear hg; have HG2 := Lib.hid (HG.out.below hb2 HG.out.lt); obtain ⟨y1, y2, y3, q1, q2, q3, f1, f2, f3⟩ := HG2.out.three (k := k) (by rw [HGL.out]; exact hke); have hgs := HG2.out.lt)
          go_roundw
          case rel =>
            have h3 := below_put3 (HB.trans (hb2.mono HB.size)) (Nat.le_refl _) (k * 3) (k * 3 + 1) (k * 3 + 2) (.int .i64 pk) (.int .i64 pf) (.int .i64 pl)
            have h4 := (HG2.out.put k (by rw [HGL.out]; exact hke) (pk, pf, pl)).alloc (.cells #[.int .i64 pk, .int .i64 pf, .int .i64 pl] 33)
            rw [HN1.out] at h4
            exact ⟨k + 1, _, by omega, by go_num, rfl, HO1, HC2, Lib.hid h4, h3.alloc h3.size _⟩
          case measure => simp [intOf]; omega
    · obtain rfl : k = n := by omega
      have HKL : Hid (k = es.length) := Lib.hid HM.out
      have HGL := Lib.hid (Sp.got_len (es := es) (k := k) (by rw [HKL.out]; exact Nat.le_refl _))
      cases ov with
      | true =>
        have HM3 : Hid (([], 9) = Sp.many es) := Lib.hid (Sp.many_over (by rw [← HKL.out]; exact HC.out) (by rw [← HKL.out]; exact HO.out.symm)).symm
        go_wp2
        go_ret2
        exact givesSpecs_nil HM3.out (hb.trans (HB.mono hb.size))
      | false =>
        by_cases h16 : 16 < k
        · have HM3 : Hid (([], 10) = Sp.many es) := Lib.hid (Sp.many_long (by rw [← HKL.out]; exact HC.out) (by rw [← HKL.out]; exact HO.out.symm) (by rw [← HKL.out]; exact h16)).symm
          go_wp2
          go_ret2
          exact givesSpecs_nil HM3.out (hb.trans (HB.mono hb.size))
        · have HM3 : Hid ((Sp.Got es k, 0) = Sp.many es) := Lib.hid (by rw [Sp.many_fine (by rw [← HKL.out]; exact HC.out) (by rw [← HKL.out]; exact HO.out.symm) (by rw [← HKL.out]; omega), HKL.out, Sp.got_all])
          have h16' : (k : Int) ≤ 16 := by omega
          go_wp2
          go_ret2
          exact givesSpecs_blk HM3.out HG.out (by rw [HGL.out]; exact HKL.out.symm) (hb.trans (HB.mono hb.size))

theorem elems_len (s : List UInt8) : (Sp.elementsOf s).length ≤ s.length + 1 ∧ ∀ p ∈ Sp.elementsOf s, p.length ≤ s.length := by
  have ht : (Tx.trim s).length ≤ s.length := by
    have h1 := Tx.left_len (Tx.right s)
    have h2 := Tx.right_len s
    unfold Tx.trim
    omega
  have hl := cut_len (Tx.trim s) 61
  unfold Sp.elementsOf
  by_cases h1 : (Tx.cut (Tx.trim s) 61).1.map Tx.low = Sp.unit
  · rw [if_pos h1]
    by_cases h2 : Tx.listed (Tx.cut (Tx.trim s) 61).2.1 = true
    · rw [if_pos h2]
      unfold Tx.elems Tx.pick
      refine ⟨?_, fun p hp => ?_⟩
      · refine Nat.le_trans (List.length_filter_le _ _) ?_
        rw [List.length_map]
        have := parts_len (Tx.cut (Tx.trim s) 61).2.1
        omega
      · obtain ⟨q, hq, rfl⟩ := List.mem_map.1 (List.mem_filter.1 hp).1
        have h3 := parts_mem_len hq
        have h4 := Tx.left_len (Tx.right q)
        have h5 := Tx.right_len q
        unfold Tx.trim
        omega
    · rw [if_neg h2]; exact ⟨by simp, fun p hp => absurd hp (by simp)⟩
  · rw [if_neg h1]; exact ⟨by simp, fun p hp => absurd hp (by simp)⟩
theorem specParse_any (s : ByteArray) (w : World) (hs : s.size ≤ 1000000) :
    Calls Tryd.prog 5 #[.string s] w (GivesSpecs (Sp.specs s.data.toList) w) := by
  have ce := fun W => elemsOf_any s W hs
  obtain ⟨h1, h2⟩ := elems_len s.data.toList
  rw [size_list] at h1 h2
  unfold Sp.specs
  by_cases h0 : Sp.elementsOf s.data.toList = []
  · rw [if_pos h0]
    rw [h0] at ce
    exact parse_none s w ce
  · rw [if_neg h0]
    exact parse_many s _ w (List.length_pos_iff.2 h0) (by omega) (fun p hp => by have := h2 p hp; unfold maxLen; omega) ce
end Go.Proofs.YtokknicfnnkldaaDoorRR
