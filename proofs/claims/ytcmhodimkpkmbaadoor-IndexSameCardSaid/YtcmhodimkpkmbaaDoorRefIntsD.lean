/-
  Contract of the document's own look whether two rows of numbers are alike, whatever they are.
-/
import Derived.Test.YtcmhodimkpkmbaaDoorRefInts
namespace Go.Proofs.YtcmhodimkpkmbaaDoor
open Go.ChangeShapes Go.WideShapes Go.ChangeAt Go.RowKit

set_option maxHeartbeats 800000 in
theorem ints_any (A1 A2 : Option Addr) (n1 n2 c1 c2 B : Nat) (l1 l2 : List Int) (w : World) (h1 : Vs w B A1 n1 (nums .i64 l1)) (h2 : Vs w B A2 n2 (nums .i64 l2)) (hn : n1 ≤ 9223372036854775807) :
    Calls Tryd.prog 26 #[.slice A1 n1 c1, .slice A2 n2 c2] w (NoMoreI w (.bool (decide (l1 = l2)))) := by
  have hl1 : l1.length = n1 := by have := h1.1; rwa [nums_length] at this
  have hl2 : l2.length = n2 := by have := h2.1; rwa [nums_length] at this
  obtain ⟨q, hq⟩ : ∃ q, q = decide (l1 = l2) := ⟨_, rfl⟩
  have HQ := Lib.hid hq
  rw [← hq]
  clear hq
  by_cases he : n1 = n2
  · subst he
    have HL1 := Lib.hid hl1
    have HL2 := Lib.hid hl2
    have C1 := Lib.hid h1.2
    have C2 := Lib.hid h2.2
    clear h1 h2 hl1 hl2
    have hne : ((n1 : Int) != (n1 : Int)) = false := by simp
    go_enter Tryd.func26, Tryd.ntmps26
    go_wp2
    go_loopw [13] (fun i wr => ∃ k m : Nat, k ≤ n1 ∧ i = .int .i64 k ∧ wr = w.drewN m ∧ Hid (l1.take k = l2.take k)) (fun i _ => n1 - (intOf i).toNat)
    case atStart => exact ⟨0, 0, by omega, rfl, rfl, Lib.hid rfl⟩
    case round =>
      obtain ⟨k, m, hk, rfl, rfl, HT⟩ := hrel
      clear hne
      by_cases hlt : k < n1
      · obtain ⟨b1, o1, rfl, hB1, hc1⟩ := C1.out (by omega)
        obtain ⟨b2, o2, rfl, hB2, hc2⟩ := C2.out (by omega)
        have hk1 : k < l1.length := by rw [HL1.out]; exact hlt
        have hk2 : k < l2.length := by rw [HL2.out]; exact hlt
        have e1 := hc1 k (by rw [nums_length]; exact hk1)
        have e2 := hc2 k (by rw [nums_length]; exact hk2)
        rw [nums_get .i64 l1 k _ hk1] at e1
        rw [nums_get .i64 l2 k _ hk2] at e2
        have HN := Lib.hid (fun (h : l1[k] = l2[k]) => show l1.take (k + 1) = l2.take (k + 1) by rw [List.take_succ_eq_append_getElem hk1, List.take_succ_eq_append_getElem hk2, HT.out, h])
        have HF := Lib.hid (fun (h : ¬ l1[k] = l2[k]) => show q = false by
          rw [HQ.out]
          refine decide_eq_false fun e => h ?_
          subst e
          rfl)
        obtain ⟨x, hx⟩ : ∃ x, x = l1[k] := ⟨_, rfl⟩
        obtain ⟨y, hy⟩ : ∃ y, y = l2[k] := ⟨_, rfl⟩
        rw [← hx] at e1
        rw [← hy] at e2
        rw [← hx, ← hy] at HN HF
        clear hc1 hc2 C1 C2 HL1 HL2 hx hy hk1 hk2
        by_cases hxy : x = y
        · have HE := Lib.hid (HN.out hxy)
          have ht : (x != y) = false := by simp [hxy]
          clear hxy HN HF
          go_wp2
          go_quiet (fail)
          go_wp2
          go_roundw
          case rel => exact ⟨k + 1, _, by omega, by go_num, rfl, HE⟩
          case measure => simp [intOf]; omega
        · have HE := Lib.hid (HF.out hxy)
          have ht : (x != y) = true := by simp [hxy]
          clear hxy HN HF
          go_wp2
          go_quiet (fail)
          go_wp2
          go_ret
          exact ⟨by rw [HE.out]; rfl, _, World.drewN_drewN _ _ _⟩
      · have HE : Hid (q = true) := Lib.hid (by
          rw [HQ.out]
          have h9 := HT.out
          rw [List.take_of_length_le (by rw [HL1.out]; omega), List.take_of_length_le (by rw [HL2.out]; omega)] at h9
          exact decide_eq_true h9)
        go_wp2
        go_ret
        exact ⟨by rw [HE.out]; rfl, m, rfl⟩
  · have HE : Hid (q = false) := Lib.hid (by
      rw [HQ.out]
      exact decide_eq_false fun e => he (by rw [← hl1, ← hl2, e]))
    have hne : ((n1 : Int) != (n2 : Int)) = true := by simp; omega
    clear h1 h2 hl1 hl2 he
    go_enter Tryd.func26, Tryd.ntmps26
    go_wp2
    go_ret
    exact ⟨by rw [HE.out]; rfl, 0, rfl⟩
end Go.Proofs.YtcmhodimkpkmbaaDoor
