/-
  Contract of the document's own Token.
-/
import Derived.Test.YtlilkcbhlinolaaDoorRefDigit
import Derived.WalkLawsBesides
import Derived.Laws.BytesString
import Derived.Test.YtlilkcbhlinolaaDoorTextToken
namespace Go.Proofs.YtlilkcbhlinolaaDoor
open Go.ChangeShapes Go.WideShapes Go.ChangeAt Go.RowKit

theorem marks14_at {j : Nat} (h' : j < Tx.marks14.length) : (Tx.marks14.take (j + 1)) = Tx.marks14.take j ++ [Tx.marks14[j]] := List.take_succ_eq_append_getElem h'

set_option maxHeartbeats 4000000 in
theorem refToken_any (s : ByteArray) (w : World) (hs : s.size ≤ 9223372036854775807) :
    Calls Tryd.prog 16 #[.string s] w fun e w' => e = .returned (.bool (Tx.token s.data.toList)) ∧ w = w' := by
  go_enter Tryd.func16, Tryd.ntmps16
  go_wp2
  go_loop [3] (fun i => ∃ k : Nat, k ≤ s.size ∧ i = .int .i64 k ∧ Hid ((s.data.toList.take k).all Tx.tok = true)) (fun i => s.size - (intOf i).toNat)
  case atStart => exact ⟨0, by omega, rfl, Lib.hid (by simp)⟩
  case round =>
    obtain ⟨k, hk, rfl, HA⟩ := hrel
    by_cases hlt : k < s.size
    · obtain ⟨c, hc⟩ : ∃ c, c = s[k] := ⟨_, rfl⟩
      have H1 : Hid (Tx.tok c = true → (s.data.toList.take (k + 1)).all Tx.tok = true) := Lib.hid fun h => by
        rw [take_snoc s k hlt, List.all_append, HA.out, ← hc]; simp [h]
      have H2 : Hid (Tx.tok c = false → Tx.token s.data.toList = false) := Lib.hid fun h => token_bad hlt (by rw [← hc]; exact h)
      have ht := tok_cases c
      clear HA
      rcases ht with ⟨h1, h3, h4, h5⟩ | ⟨⟨h1, h2⟩, h3, h5⟩ | ⟨⟨h1, h2⟩, h3, h4, h5⟩ | ⟨⟨h1, h2⟩, h3, h5⟩ | ⟨⟨h1, h2⟩, h3, h4, h5, h6⟩ | ⟨⟨h1, h2⟩, h3, h4, h5, h6⟩ | ⟨⟨h1, h2⟩, h3, h5⟩ | ⟨h1, h3, h4, h5, h6, h7⟩
      all_goals
        try unfold Is96 at h4
        try unfold Over at h6
        try unfold Over at h7
        have cd := fun W => digit_if h3 W
        have H5 := Lib.hid h5
        clear h3 h5
        rw [hc] at *
        clear hc
        go_wp2_with (go_at_call 28; refine (cd _).mono ?_; rintro e w1 ⟨rfl, rfl⟩; clear cd)
        go_loop [5, 6] (fun v i => ∃ (j : Nat) (b : Bool), j ≤ 14 ∧ i = .int .i64 j ∧ v = .bool b ∧ Hid (b = (tok0 s[k] || (Tx.marks14.take j).any (· == s[k])))) (fun _ i => 14 - (intOf i).toNat)
        case atStart => exact ⟨0, _, by omega, rfl, rfl, Lib.hid (by rw [H5.out]; rfl)⟩
        case round =>
          obtain ⟨j, b, hj, rfl, rfl, HJ⟩ := hrel
          by_cases hjl : j < 14
          · have hjm : j < Tx.marks14.length := hjl
            cases b with
            | true =>
              have HJ2 : Hid (true = (tok0 s[k] || (Tx.marks14.take (j + 1)).any (· == s[k]))) := Lib.hid (by rw [marks14_at hjm, List.any_append, ← Bool.or_assoc, ← HJ.out]; rfl)
              clear HJ hjm
              go_wp2
              go_round
              case rel => exact ⟨j + 1, true, by omega, by go_num, rfl, HJ2⟩
              case measure => simp [intOf]; omega
            | false =>
              have HJ2 : Hid ((((Tx.marks14[j].toNat : Int) == (s[k].toNat : Int)) : Bool) = (tok0 s[k] || (Tx.marks14.take (j + 1)).any (· == s[k]))) := Lib.hid (by
                rw [marks14_at hjm, List.any_append, ← Bool.or_assoc, ← HJ.out]
                simp only [Bool.false_or, List.any_cons, List.any_nil, Bool.or_false]
                rw [Bool.eq_iff_iff, beq_iff_eq, beq_iff_eq]
                exact ⟨fun e => UInt8.toNat_inj.1 (by omega), fun e => by rw [e]⟩)
              clear HJ
              go_wp2
              go_round
              case rel => exact ⟨j + 1, _, by omega, by go_num, rfl, HJ2⟩
              case measure => simp [intOf]; omega
          · obtain rfl : j = 14 := by omega
            have HT : Hid (b = Tx.tok s[k]) := Lib.hid (by rw [tok_alt, HJ.out]; rfl)
            clear HJ
            cases b with
            | true =>
              have H := Lib.hid (H1.out HT.out.symm)
              clear H1 H2 HT H5
              go_wp2
              go_round
              case rel => exact ⟨k + 1, by omega, by go_num, H⟩
              case measure => simp [intOf]; omega
            | false =>
              have H := Lib.hid (H2.out HT.out.symm).symm
              clear H1 H2 HT H5
              go_wp2
              go_ret
              exact ⟨ret_bool H.out, rfl⟩
    · have hall : s.data.toList.all Tx.tok = true := by
        have := HA.out
        rwa [List.take_of_length_le (by rw [size_list]; omega)] at this
      by_cases h0 : s.size = 0
      · have hn : s.data.toList = [] := List.eq_nil_of_length_eq_zero (by rw [size_list, h0])
        have H : Hid (false = Tx.token s.data.toList) := Lib.hid (token_nil hn).symm
        have hd : decide ((0 : Int) < (s.size : Int)) = false := decide_eq_false (by omega)
        clear HA hn hall
        go_wp2
        go_ret
        exact ⟨ret_bool H.out, rfl⟩
      · have hp : 0 < s.size := by omega
        have H : Hid (true = Tx.token s.data.toList) := Lib.hid (token_all hall (by rw [size_list]; omega)).symm
        clear HA hall
        go_wp2
        go_ret
        exact ⟨ret_bool H.out, rfl⟩
end Go.Proofs.YtlilkcbhlinolaaDoor
