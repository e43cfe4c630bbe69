/-
  The law's Few and awake.
-/
import Derived.Test.YtgnncbbfbhipaaaFlashAll
namespace Go.Proofs.Ytgnncbbfbhipaaa
open Go.ChangeShapes Go.WideShapes Go.ChangeAt Go.RowKit Fl
set_option maxRecDepth 100000

set_option maxHeartbeats 2000000 in
theorem few_any (A : Option Addr) (n c : Nat) (L : List Dd) (w : World) (h : Ds w w.heap.size A n L) (hn : n ≤ maxLen) :
    Calls Try.prog 7 #[.slice A n c] w fun e w' => e = .returned (.bool (fewB L)) ∧ Below w.heap.size w w' := by
  have HL : Hid (L.length = n) := Lib.hid h.1
  have HS := Lib.hid h
  have hn2 : n ≤ 9223372036854775807 := by unfold maxLen at hn; omega
  clear h hn
  go_enter Try.func7, Try.ntmps7
  go_wp2
  go_loopw [4, 7] (fun _ i wr => ∃ j : Nat, j ≤ n ∧ i = .int .i64 j ∧ Hid (∀ d ∈ L.take j, d.data.length ≤ 300) ∧ Hid (Below w.heap.size w wr)) (fun _ i _ => n - (intOf i).toNat)
  case atStart => exact ⟨0, Nat.zero_le _, rfl, Lib.hid (by simp), Lib.hid (Below.refl _ _)⟩
  case round =>
    obtain ⟨j, hj, rfl, HA, HB⟩ := hrel
    by_cases hlt : j < n
    · obtain ⟨b, off, rfl, hbB, hc⟩ := (HS.out.below HB.out).2 (by omega)
      have hjL : j < L.length := by rw [HL.out]; exact hlt
      obtain ⟨d0, d1, d2, ⟨A3, c3, d3, -, -, -⟩, d4, d5, d6⟩ := hc j hjL
      have HYES : Hid (L[j].data.length ≤ 300 → ∀ d ∈ L.take (j + 1), d.data.length ≤ 300) := Lib.hid fun h1 d hd => by
        rw [List.take_succ_eq_append_getElem hjL] at hd
        rcases List.mem_append.1 hd with hd | hd
        · exact HA.out d hd
        · simp only [List.mem_singleton] at hd
          subst hd
          exact h1
      have HNO : Hid (¬ L[j].data.length ≤ 300 → fewB L = false) := Lib.hid fun h1 => by
        cases hf : fewB L with
        | false => rfl
        | true => exact absurd ((fewB_all hf).1 _ (List.getElem_mem hjL)) h1
      clear hc
      generalize L[j].data.length = dl at d3 HYES HNO
      generalize L[j].kind = q0 at d0
      generalize L[j].seg = q1 at d1
      generalize L[j].page = q2 at d2
      generalize L[j].keep = q4 at d4
      generalize L[j].torn = q5 at d5
      generalize L[j].cut = q6 at d6
      by_cases hdl : dl ≤ 300
      · have hdd : decide ((300 : Int) < dl) = false := decide_eq_false (by omega)
        have HY := Lib.hid (HYES.out hdl)
        clear HYES HNO
        have hdl2 : ¬ (300 : Int) < dl := by omega
        go_wp2
        go_roundw
        case rel => exact ⟨j + 1, by omega, by go_num, HY, Lib.hid (HB.out.alloc HB.out.size _)⟩
        case measure => simp [intOf]; omega
      · have hdd : decide ((300 : Int) < dl) = true := decide_eq_true (by omega)
        have HN := Lib.hid (HNO.out hdl)
        clear HYES HNO
        have hdl2 : (300 : Int) < dl := by omega
        go_wp2
        go_ret
        exact ⟨by rw [HN.out]; rfl, HB.out.alloc HB.out.size _⟩
    · obtain rfl : j = n := by omega
      have HA2 : Hid (fewB L = decide (j ≤ 60)) := Lib.hid (by
        have := HA.out
        rw [List.take_of_length_le (by rw [HL.out]; exact Nat.le_refl _)] at this
        unfold fewB
        rw [HL.out, List.all_eq_true.2 (fun d hd => by simpa using this d hd)]
        rfl)
      by_cases h60 : j ≤ 60
      · have hd : decide ((j : Int) ≤ 60) = true := decide_eq_true (by omega)
        go_wp2
        go_ret
        exact ⟨by rw [HA2.out, decide_eq_true h60]; rfl, HB.out⟩
      · have hd : decide ((j : Int) ≤ 60) = false := decide_eq_false (by omega)
        go_wp2
        go_ret
        exact ⟨by rw [HA2.out, decide_eq_false h60]; rfl, HB.out⟩
theorem zero_fr (w : World) : Fr w (fun _ => 0) := fun _ _ => rfl
end Go.Proofs.Ytgnncbbfbhipaaa
