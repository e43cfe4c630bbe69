/-
  The contract of the document's own Parse: it answers the number of a text as the plain reading does.
-/
import Derived.Test.YtejmiodblfpkjaaDoorNums
import Derived.WalkLawsBesides
import Derived.Laws.BytesString
import Derived.Below
import Derived.Lib.ItoaLen
import Derived.Lib.IndexBytes
namespace Go.Proofs.YtejmiodblfpkjaaDoor
open Go.ChangeShapes Go.WideShapes Go.ChangeAt Go.RowKit

theorem digitP_yes (c : UInt8) (w : World) (h : Nm.digB c = true) :
    Calls Tryd.prog 30 #[.int .u8 c.toNat] w fun e w' => e = .returned (.bool true) ∧ w = w' := by
  obtain ⟨h1, h2⟩ := Nm.digB_iff.1 h
  clear h
  go_enter Tryd.func30, Tryd.ntmps30
  go_wp2
  go_ret
  exact ⟨rfl, rfl⟩
theorem digitP_no (c : UInt8) (w : World) (h : Nm.digB c = false) :
    Calls Tryd.prog 30 #[.int .u8 c.toNat] w fun e w' => e = .returned (.bool false) ∧ w = w' := by
  by_cases h1 : 48 ≤ (c.toNat : Int)
  · have h2 : decide ((c.toNat : Int) ≤ 57) = false := decide_eq_false fun g => by rw [Nm.digB_yes h1 g] at h; cases h
    clear h
    go_enter Tryd.func30, Tryd.ntmps30
    go_wp2
    go_ret
    exact ⟨rfl, rfl⟩
  · have h2 : (c.toNat : Int) < 48 := by omega
    clear h h1
    go_enter Tryd.func30, Tryd.ntmps30
    go_wp2
    go_ret
    exact ⟨rfl, rfl⟩

theorem take_snocP (s : ByteArray) (k : Nat) (h : k < s.size) : s.data.toList.take (k + 1) = s.data.toList.take k ++ [s[k]] := by
  rw [List.take_succ_eq_append_getElem (by simpa using h)]; rfl

theorem HL0 (s : ByteArray) (i : Nat) : (s.extract i s.size).toList = s.data.toList.drop i := by rw [Lib.toList_data, Lib.extract_to_end]

theorem ext_size (s : ByteArray) (i : Nat) : (s.extract i s.size).size = s.size - i := by simp
theorem ext_byte (s : ByteArray) (i m : Nat) (h : m < (s.extract i s.size).size) (h' : m < (s.data.toList.drop i).length) : (s.extract i s.size)[m] = (s.data.toList.drop i)[m] := by
  have e := Lib.extract_to_end s i
  have hl : m < (s.extract i s.size).data.toList.length := by rw [e]; exact h'
  have h1 : (s.extract i s.size)[m] = (s.extract i s.size).data.toList[m] := rfl
  rw [h1]
  simp only [e]

/-- one digit more of the rest -/
theorem step3 (s : ByteArray) (i m : Nat) (v : Int) (ha : s.data.toList.all Nm.digB = true) (hf : Nm.val 0 (s.data.toList.drop i) ≤ Nm.maxNum) (hm : m < s.size - i)
    (hv : v = Nm.val 0 ((s.data.toList.drop i).take m)) (hx : m < (s.extract i s.size).size) :
    0 ≤ 10 * v ∧ 10 * v ≤ 4611686018427387903 ∧ 48 ≤ ((s.extract i s.size)[m].toNat : Int) ∧ ((s.extract i s.size)[m].toNat : Int) ≤ 57 ∧
      10 * v + ((s.extract i s.size)[m].toNat : Int) - 48 = Nm.val 0 ((s.data.toList.drop i).take (m + 1)) ∧ 10 * v + ((s.extract i s.size)[m].toNat : Int) - 48 ≤ 4611686018427387903 := by
  have hl : m < (s.data.toList.drop i).length := by rw [List.length_drop]; simpa using hm
  rw [ext_byte s i m hx hl]
  have hT := Nm.all_drop ha i
  have hs := Nm.val_snoc hl
  have h0 := Nm.val_nonneg (Nm.all_take hT m) (n := 0) (by decide)
  have h1 := Nm.val_take_le hT (m + 1)
  have hd : Nm.digB (s.data.toList.drop i)[m] = true := by
    rw [List.all_eq_true] at hT
    exact hT _ (List.getElem_mem hl)
  obtain ⟨d1, d2⟩ := Nm.digB_iff.1 hd
  rw [← hv] at hs h0
  unfold Nm.maxNum at hf
  generalize (s.data.toList.drop i)[m] = b at *
  refine ⟨by omega, by omega, d1, d2, by omega, by omega⟩

/-- a text with a byte that is no digit, or none at all -/
theorem refParse_empty (s : ByteArray) (w : World) (h0 : s.size = 0) :
    Calls Tryd.prog 20 #[.string s] w fun e w' => e = .returned (.tuple #[.int .i64 0, .int .i64 3]) ∧ w = w' := by
  go_enter Tryd.func20, Tryd.ntmps20
  go_wp2
  go_ret2
  exact ⟨rfl, rfl⟩

set_option maxHeartbeats 400000 in
theorem refParse_some (s : ByteArray) (w : World) (hs : s.size ≤ maxLen) (h0 : 0 < s.size) :
    Calls Tryd.prog 20 #[.string s] w fun e w' => e = .returned (.tuple #[.int .i64 (Nm.parse s.data.toList).1, .int .i64 (Nm.parse s.data.toList).2]) ∧ w = w' := by
  unfold maxLen at hs
  have hz : ((s.size : Int) == 0) = false := by rw [beq_eq_false_iff_ne]; omega
  go_enter Tryd.func20, Tryd.ntmps20
  go_wp2
  go_loopg [2, 3, 4] s.size (fun g s2 s3 s4 wx => ∃ k : Nat, k + g = s.size ∧ s2 = .int .i64 0 ∧ s3 = .int .i64 0 ∧ s4 = .int .i64 k ∧ Hid ((s.data.toList.take k).all Nm.digB = true) ∧ wx = w)
  case atStart => exact ⟨0, by omega, rfl, rfl, rfl, Lib.hid (by simp), rfl⟩
  case round =>
    obtain ⟨k, hk, rfl, rfl, rfl, HA, rfl⟩ := hrel
    by_cases hlt : k < s.size
    · obtain ⟨g', rfl⟩ : ∃ g', gk = g' + 1 := ⟨gk - 1, by omega⟩
      by_cases hd : Nm.digB s[k] = true
      · have HA2 : Hid ((s.data.toList.take (k + 1)).all Nm.digB = true) := Lib.hid (by rw [take_snocP s k hlt, List.all_append, HA.out]; simp [hd])
        have hc := digitP_yes s[k] wr hd
        clear hd HA
        go_wp2_with (go_at_call 30; refine hc.mono ?_; rintro e w' ⟨rfl, rfl⟩; clear hc)
        go_roundg g'
        case measure => omega
        case rel => exact ⟨k + 1, by omega, rfl, rfl, by go_num, HA2, rfl⟩
      · have hd : Nm.digB s[k] = false := by simpa using hd
        have HB : Hid ((0, 3) = Nm.parse s.data.toList) := Lib.hid (by
          have e : s.data.toList = s.data.toList.take k ++ s[k] :: s.data.toList.drop (k + 1) := by rw [← Nm.drop_cons s k hlt, List.take_append_drop]
          rw [Nm.parse_bad (by rw [e, List.all_append, List.all_cons, hd]; simp)])
        have hc := digitP_no s[k] wr hd
        clear hd HA
        go_wp2_with (go_at_call 30; refine hc.mono ?_; rintro e w' ⟨rfl, rfl⟩; clear hc)
        go_ret2
        exact ⟨ret_two HB.out, rfl⟩
    · have HA2 : Hid (s.data.toList.all Nm.digB = true) := Lib.hid (by
        have := HA.out
        rwa [List.take_of_length_le (by simp; omega)] at this)
      have hge : s.size ≤ k := by omega
      clear HA hk hlt
      go_wp2
      go_loopg [5] (s.size - 1) (fun g s5 wx => ∃ i : Nat, i + g + 1 = s.size ∧ s5 = .int .i64 i ∧ Hid (Nm.val 0 (s.data.toList.drop i) = Nm.val 0 s.data.toList) ∧ wx = wr)
      case atStart => exact ⟨0, by omega, rfl, Lib.hid (by simp), rfl⟩
      case round =>
        obtain ⟨i, hi, rfl, HV, rfl⟩ := hrel
        have his : i < s.size := by omega
        by_cases hlast : i + 1 < s.size
        · obtain ⟨g', rfl⟩ : ∃ g', gk = g' + 1 := ⟨gk - 1, by omega⟩
          by_cases hz0 : (s[i].toNat : Int) = 48
          · have HV2 : Hid (Nm.val 0 (s.data.toList.drop (i + 1)) = Nm.val 0 s.data.toList) := Lib.hid (by
              rw [← HV.out, Nm.drop_cons s i his, Nm.val_cons, hz0]; rfl)
            have hz1 : ((s[i].toNat : Int) == 48) = true := by rw [beq_iff_eq]; exact hz0
            have hz2 : (i : Int) < (s.size : Int) - 1 := by omega
            clear hz0 HV
            go_wp2
            go_roundg g'
            case measure => omega
            case rel => exact ⟨i + 1, by omega, by go_num, HV2, rfl⟩
          · have hz1 : ((s[i].toNat : Int) == 48) = false := by rw [beq_eq_false_iff_ne]; exact hz0
            have hz2 : (i : Int) < (s.size : Int) - 1 := by omega
            clear hz0
            have hLen : (s.data.toList.drop i).length = s.size - i := by rw [List.length_drop]; simp
            have HLen := Lib.hid hLen
            clear hLen
            have HN : Hid ((s.data.toList.drop i)[0]? ≠ some 48) := Lib.hid (by
              rw [Nm.drop_cons s i his]
              intro e
              have e2 : s[i] = 48 := by simpa using e
              rw [e2] at hz1; exact absurd hz1 (by decide))
            go_wp2
            · have ht : (s.size - i : Nat) = 19 := by
                have : ((s.size - i : Nat) : Int) = 19 := by assumption
                omega
              have hg : (!Op.bytesLess (s.extract i s.size).toList Nm.maxText) = true ∧ (!(s.extract i s.size).toList == Nm.maxText) = true := by assumption
              rw [HL0] at hg
              have hq := Nm.maxText_gtr (Nm.all_drop HA2.out i) (HLen.out.trans ht)
              rw [Bool.not_or, hg.1, hg.2] at hq
              go_ret2
              refine ⟨ret_two ?_, rfl⟩
              rw [Nm.parse_over HA2.out]
              rw [← HV.out]
              exact of_decide_eq_true hq.symm
            · have HF : Hid (Nm.val 0 (s.data.toList.drop i) ≤ Nm.maxNum) := by
                have ht : (s.size - i : Nat) = 19 := by
                  have : ((s.size - i : Nat) : Int) = 19 := by assumption
                  omega
                have hg : (!Op.bytesLess (s.extract i s.size).toList Nm.maxText) = false ∨ (!(s.extract i s.size).toList == Nm.maxText) = false := by assumption
                rw [HL0] at hg
                have hq := Nm.maxText_gtr (Nm.all_drop HA2.out i) (HLen.out.trans ht)
                rw [Bool.not_or] at hq
                refine Lib.hid ?_
                rcases hg with hg | hg
                · rw [hg, Bool.false_and] at hq
                  have := of_decide_eq_false hq.symm; omega
                · rw [hg, Bool.and_false] at hq
                  have := of_decide_eq_false hq.symm; omega
              go_loopg [7, 8] (s.size - i) (fun g s7 s8 wx => ∃ (k : Nat) (v : Int), k + g = s.size - i ∧ s8 = .int .i64 k ∧ s7 = .int .i64 v ∧ Hid (v = Nm.val 0 ((s.data.toList.drop i).take k)) ∧ 0 ≤ v ∧ v ≤ 4611686018427387903 ∧ wx = wr)
              case atStart => exact ⟨0, 0, by omega, rfl, rfl, Lib.hid rfl, by omega, by omega, rfl⟩
              case round =>
                obtain ⟨m, v, hm, rfl, rfl, HVv, hv0, hv1, rfl⟩ := hrel
                by_cases hmt : m < s.size - i
                · obtain ⟨g', rfl⟩ : ∃ g', gk = g' + 1 := ⟨gk - 1, by omega⟩
                  have hx : m < (s.extract i s.size).size := by rw [ext_size]; exact hmt
                  obtain ⟨p1, p2, p3, p4, p5, p6⟩ := step3 s i m v HA2.out HF.out hmt HVv.out hx
                  have P5 := Lib.hid p5
                  clear p5 HVv
                  go_wp2
                  go_roundg g'
                  case measure => omega
                  case rel => exact ⟨m + 1, _, by omega, by go_num, rfl, P5, by omega, p6, rfl⟩
                · go_wp2
                  go_ret2
                  refine ⟨ret_two ?_, rfl⟩
                  have e1 := HVv.out
                  rw [List.take_of_length_le (by rw [List.length_drop]; simp; omega)] at e1
                  have e2 := HV.out
                  have e3 := HF.out
                  rw [e2] at e1 e3
                  rw [Nm.parse_ok (by intro e; have : s.size = 0 := by simpa using congrArg List.length e
                                      omega) HA2.out e3, e1]
            · have HF : Hid (Nm.val 0 (s.data.toList.drop i) ≤ Nm.maxNum) := by
                have h1 : ¬ ((s.size - i : Nat) : Int) = 19 := by assumption
                have h2 : ((s.size - i : Nat) : Int) ≤ 19 := by assumption
                exact Lib.hid (Nm.small_val (Nm.all_drop HA2.out i) (by rw [HLen.out]; omega))
              go_loopg [7, 8] (s.size - i) (fun g s7 s8 wx => ∃ (k : Nat) (v : Int), k + g = s.size - i ∧ s8 = .int .i64 k ∧ s7 = .int .i64 v ∧ Hid (v = Nm.val 0 ((s.data.toList.drop i).take k)) ∧ 0 ≤ v ∧ v ≤ 4611686018427387903 ∧ wx = wr)
              case atStart => exact ⟨0, 0, by omega, rfl, rfl, Lib.hid rfl, by omega, by omega, rfl⟩
              case round =>
                obtain ⟨m, v, hm, rfl, rfl, HVv, hv0, hv1, rfl⟩ := hrel
                by_cases hmt : m < s.size - i
                · obtain ⟨g', rfl⟩ : ∃ g', gk = g' + 1 := ⟨gk - 1, by omega⟩
                  have hx : m < (s.extract i s.size).size := by rw [ext_size]; exact hmt
                  obtain ⟨p1, p2, p3, p4, p5, p6⟩ := step3 s i m v HA2.out HF.out hmt HVv.out hx
                  have P5 := Lib.hid p5
                  clear p5 HVv
                  go_wp2
                  go_roundg g'
                  case measure => omega
                  case rel => exact ⟨m + 1, _, by omega, by go_num, rfl, P5, by omega, p6, rfl⟩
                · go_wp2
                  go_ret2
                  refine ⟨ret_two ?_, rfl⟩
                  have e1 := HVv.out
                  rw [List.take_of_length_le (by rw [List.length_drop]; simp; omega)] at e1
                  have e2 := HV.out
                  have e3 := HF.out
                  rw [e2] at e1 e3
                  rw [Nm.parse_ok (by intro e; have : s.size = 0 := by simpa using congrArg List.length e
                                      omega) HA2.out e3, e1]
            · have h2 : 19 < ((s.size - i : Nat) : Int) := by assumption
              go_ret2
              refine ⟨ret_two ?_, rfl⟩
              rw [Nm.parse_over HA2.out]
              rw [← HV.out]
              exact Nm.big_val (Nm.all_drop HA2.out i) HN.out (by rw [HLen.out]; omega)
        · have hz2 : (s.size : Int) - 1 ≤ (i : Int) := by omega
          have HF : Hid (Nm.val 0 (s.data.toList.drop i) ≤ Nm.maxNum) := Lib.hid (Nm.small_val (Nm.all_drop HA2.out i) (by rw [List.length_drop]; simp; omega))
          go_wp2
          go_loopg [7, 8] (s.size - i) (fun g s7 s8 wx => ∃ (k : Nat) (v : Int), k + g = s.size - i ∧ s8 = .int .i64 k ∧ s7 = .int .i64 v ∧ Hid (v = Nm.val 0 ((s.data.toList.drop i).take k)) ∧ 0 ≤ v ∧ v ≤ 4611686018427387903 ∧ wx = wr)
          case atStart => exact ⟨0, 0, by omega, rfl, rfl, Lib.hid rfl, by omega, by omega, rfl⟩
          case round =>
            obtain ⟨m, v, hm, rfl, rfl, HVv, hv0, hv1, rfl⟩ := hrel
            by_cases hmt : m < s.size - i
            · obtain ⟨g', rfl⟩ : ∃ g', gk = g' + 1 := ⟨gk - 1, by omega⟩
              have hx : m < (s.extract i s.size).size := by rw [ext_size]; exact hmt
              obtain ⟨p1, p2, p3, p4, p5, p6⟩ := step3 s i m v HA2.out HF.out hmt HVv.out hx
              have P5 := Lib.hid p5
              clear p5 HVv
              go_wp2
              go_roundg g'
              case measure => omega
              case rel => exact ⟨m + 1, _, by omega, by go_num, rfl, P5, by omega, p6, rfl⟩
            · go_wp2
              go_ret2
              refine ⟨ret_two ?_, rfl⟩
              have e1 := HVv.out
              rw [List.take_of_length_le (by rw [List.length_drop]; simp; omega)] at e1
              have e2 := HV.out
              have e3 := HF.out
              rw [e2] at e1 e3
              rw [Nm.parse_ok (by intro e; have : s.size = 0 := by simpa using congrArg List.length e
                                  omega) HA2.out e3, e1]

theorem refParse_any (s : ByteArray) (w : World) (hs : s.size ≤ maxLen) :
    Calls Tryd.prog 20 #[.string s] w fun e w' => e = .returned (.tuple #[.int .i64 (Nm.parse s.data.toList).1, .int .i64 (Nm.parse s.data.toList).2]) ∧ w = w' := by
  by_cases h0 : s.size = 0
  · have e : s.data.toList = [] := by
      have : s.data.toList.length = 0 := by simpa using h0
      exact List.length_eq_zero_iff.1 this
    rw [e]
    exact refParse_empty s w h0
  · exact refParse_some s w hs (by omega)
end Go.Proofs.YtejmiodblfpkjaaDoor
