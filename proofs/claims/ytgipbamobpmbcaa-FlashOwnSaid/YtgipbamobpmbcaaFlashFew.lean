/-
  The law's Few and awake.
-/
import Derived.Test.YtgipbamobpmbcaaFlashAll
namespace Go.Proofs.Ytgipbamobpmbcaa
open Go.ChangeShapes Go.WideShapes Go.ChangeAt Go.RowKit Fl

set_option maxHeartbeats 2000000 in
theorem few_any (A : Option Addr) (n c : Nat) (L : List Dd) (w : World) (h : Ds w w.heap.size A n L) (hn : n ≤ maxLen) :
    Calls Try.prog 7 #[.slice A n c] w fun e w' => e = .returned (.bool (fewB L)) ∧ Below w.heap.size w w' := by
  have HL : Hid (L.length = n) := Lib.hid h.1
  have HS := Lib.hid h
  have hn2 : n ≤ 9223372036854775807 := by unfold maxLen at hn; omega
  clear h hn
  go_enter Try.func7, Try.ntmps7
  go_wp2
  go_loopw [4, 7] (fun _ i wr => ∃ j : Nat, j ≤ n ∧ i = .int .i64 j ∧ Hid (∀ d ∈ L.take j, d.data.length ≤ 300) ∧ Hid (Below w.heap.size w wr)) (fun _ i _ => n - (intOf i).toNat)
  case atStart => exact ⟨0, Nat.zero_le _, rfl, Lib.hid (by simp), Lib.hid (Below.refl _ _)⟩
  case round =>
    obtain ⟨j, hj, rfl, HA, HB⟩ := hrel
    by_cases hlt : j < n
    · obtain ⟨b, off, rfl, hbB, hc⟩ := (HS.out.below HB.out).2 (by omega)
      have hjL : j < L.length := by rw [HL.out]; exact hlt
      obtain ⟨d0, d1, d2, ⟨A3, c3, d3, -, -, -⟩, d4, d5, d6⟩ := hc j hjL
      have HYES : Hid (L[j].data.length ≤ 300 → ∀ d ∈ L.take (j + 1), d.data.length ≤ 300) := Lib.hid fun h1 d hd => by
        rw [List.take_succ_eq_append_getElem hjL] at hd
        rcases List.mem_append.1 hd with hd | hd
        · exact HA.out d hd
        · simp only [List.mem_singleton] at hd
          subst hd
          exact h1
      have HNO : Hid (¬ L[j].data.length ≤ 300 → fewB L = false) := Lib.hid fun h1 => by
        cases hf : fewB L with
        | false => rfl
        | true => exact absurd ((fewB_all hf).1 _ (List.getElem_mem hjL)) h1
      clear hc
      generalize L[j].data.length = dl at d3 HYES HNO
      generalize L[j].kind = q0 at d0
      generalize L[j].seg = q1 at d1
      generalize L[j].page = q2 at d2
      generalize L[j].keep = q4 at d4
      generalize L[j].torn = q5 at d5
      generalize L[j].cut = q6 at d6
      by_cases hdl : dl ≤ 300
      · have hdd : decide ((300 : Int) < dl) = false := decide_eq_false (by omega)
        have HY := Lib.hid (HYES.out hdl)
        clear HYES HNO
        have hdl2 : ¬ (300 : Int) < dl := by omega
        go_wp2
        go_roundw
        case rel => exact ⟨j + 1, by omega, by go_num, HY, Lib.hid (HB.out.alloc HB.out.size _)⟩
        case measure => simp [intOf]; omega
      · have hdd : decide ((300 : Int) < dl) = true := decide_eq_true (by omega)
        have HN := Lib.hid (HNO.out hdl)
        clear HYES HNO
        have hdl2 : (300 : Int) < dl := by omega
        go_wp2
        go_ret
        exact ⟨by rw [HN.out]; rfl, HB.out.alloc HB.out.size _⟩
    · obtain rfl : j = n := by omega
      have HA2 : Hid (fewB L = decide (j ≤ 60)) := Lib.hid (by
        have := HA.out
        rw [List.take_of_length_le (by rw [HL.out]; exact Nat.le_refl _)] at this
        unfold fewB
        rw [HL.out, List.all_eq_true.2 (fun d hd => by simpa using this d hd)]
        rfl)
      by_cases h60 : j ≤ 60
      · have hd : decide ((j : Int) ≤ 60) = true := decide_eq_true (by omega)
        go_wp2
        go_ret
        exact ⟨by rw [HA2.out, decide_eq_true h60]; rfl, HB.out⟩
      · have hd : decide ((j : Int) ≤ 60) = false := decide_eq_false (by omega)
        go_wp2
        go_ret
        exact ⟨by rw [HA2.out, decide_eq_false h60]; rfl, HB.out⟩
theorem zero_fr (w : World) : Fr w (fun _ => 0) := fun _ _ => rfl
theorem shp16 : Shp 1 1 16 := ⟨by omega, by omega, by omega, by omega, by omega, by omega⟩
set_option maxHeartbeats 2000000 in
theorem awake_any (w : World) : Calls Try.prog 6 #[] w fun e w' => e = .returned (.bool true) ∧ Below w.heap.size w w' := by
  have cn : Calls Try.prog 9 #[.agg #[.int .i64 1, .int .i64 1, .int .i64 16]] w (NewTo 1 1 1 16 w (fun _ => 0)) := new_yes (k := 1) shp16 (zero_fr w)
  have hw0 : W64 0 := by decide
  go_enter Try.func6, Try.ntmps6
  go_wp2_with (first
    | (go_at_call 9; (with_reducible refine cn.mono ?_); rintro e w1 ⟨db, mb, v1, rfl, h1, h2, hD1, hS1⟩; have hb1 := below_new4 w1 (.cells #[.int .u8 7] 5); have hrow : Row 5 (w1.alloc (.cells #[.int .u8 7] 5)) w1.heap.size [7] := Row.new w1 5 [7]; have cw := write_ok (hD1.below hb1) (by omega) 0 0 hw0 hw0 (some ⟨w1.heap.size, 0, none⟩) 1 1 [7] ⟨_, 1, rfl, Nat.le_refl _, hrow.bs (by simp), fun e => (nomatch e)⟩ (by decide) (by decide) rfl (by decide); have HS1 := Lib.hid ((hS1 1).trans (Stp.below hb1 (hS1 1).fresh)); clear cn)
    | (go_at_call 16; (with_reducible refine cw.mono ?_); rintro e w2 ⟨rfl, v2, hD2, hS2⟩; have HS2 := Lib.hid (HS1.out.trans hS2); have HD2 := Lib.hid hD2; have cu := used_any hD2 0 0 hw0 hw0; clear cw)
    | (go_at_call 21; (with_reducible refine cu.mono ?_); rintro e w3 ⟨rfl, hb3⟩; have HS3 := Lib.hid (HS2.out.trans (Stp.below hb3 HD2.out.fr)); have hcc : Calls Try.prog 18 #[.pointer (some ⟨db, 0, none⟩), .agg #[.int .u64 0, .int .i64 (-1), .int .i64 0]] w3 _ := crash_any (HD2.out.below hb3) (by omega) 0 (-1) 0 (by omega) (by decide); clear cu)
    | (go_at_call 18; (with_reducible refine hcc.mono ?_); rintro e w4 ⟨rfl, hD4, hS4⟩; have HS4 := Lib.hid (HS3.out.trans hS4); have HF4 := Lib.hid hD4.fr; have cu2 := used_any hD4 0 0 hw0 hw0; clear hcc)
    | (go_at_call 21; (with_reducible refine cu2.mono ?_); rintro e w5 ⟨rfl, hb5⟩; have HS5 := Lib.hid (HS4.out.trans (Stp.below hb5 HF4.out)); clear cu2))
  go_ret
  exact ⟨by rfl, HS5.out.toBelow (Nat.le_refl _) (fun i _ => by show (0 : Nat) ≠ 1; omega)⟩
end Go.Proofs.Ytgipbamobpmbcaa
