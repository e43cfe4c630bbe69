/-
  Contract of the library's strings.LastIndexByte.
-/
import Derived.Test.YtokknicfnnkldaaDoorRRIndexByte
namespace Go.Proofs.YtokknicfnnkldaaDoorRR
open Go.ChangeShapes Go.WideShapes Go.ChangeAt Go.RowKit

/-- the last place of a byte: what stands behind it has none -/
theorem lastIdx_run (s : ByteArray) (c : UInt8) (w : World) (hs : s.size ≤ 9223372036854775807) :
    Calls Tryd.prog 42 #[.string s, .int .u8 (c.toNat : Int)] w fun e w' => (∃ k : Nat, e = .returned (.int .i64 ((k : Int) - 1)) ∧ k ≤ s.size ∧ c ∉ s.data.toList.drop k ∧ (k = 0 ∨ ∃ a, s.data.toList = a ++ c :: s.data.toList.drop k ∧ a.length + 1 = k)) ∧ w = w' := by
  go_enter Tryd.func42, Tryd.ntmps42
  go_wp2
  go_loop [5] (fun i => ∃ k : Nat, k ≤ s.size ∧ i = .int .i64 ((k : Int) - 1) ∧ Hid (c ∉ s.data.toList.drop k)) (fun i => (intOf i + 1).toNat)
  case atStart => exact ⟨s.size, by omega, rfl, Lib.hid (by rw [List.drop_of_length_le (by simp)]; simp)⟩
  case round =>
    obtain ⟨k, hk, rfl, HN⟩ := hrel
    rcases k with _ | k
    · go_wp2
      go_ret
      exact ⟨⟨0, rfl, by omega, HN.out, .inl rfl⟩, rfl⟩
    · have hk' : k < s.size := by omega
      have e1 : ((k + 1 : Nat) : Int) - 1 = (k : Int) := by omega
      rw [e1]
      clear e1
      by_cases hc : s[k] = c
      · have ht : ((s[k].toNat : Int) == (c.toNat : Int)) = true := by rw [hc]; simp
        have H : Hid (∃ a, s.data.toList = a ++ c :: s.data.toList.drop (k + 1) ∧ a.length + 1 = k + 1) := Lib.hid ⟨s.data.toList.take k, by rw [← hc, ← snoc_take s k hk', List.take_append_drop], by rw [List.length_take]; simp; omega⟩
        clear hc
        go_wp2
        go_ret
        exact ⟨⟨k + 1, by simp, hk, HN.out, .inr H.out⟩, rfl⟩
      · have ht : ((s[k].toNat : Int) == (c.toNat : Int)) = false := by
          rw [beq_eq_false_iff_ne]
          intro e
          exact hc (UInt8.toNat_inj.1 (by omega))
        have HN2 : Hid (c ∉ s.data.toList.drop k) := Lib.hid (by
          rw [snoc_take s k hk']
          intro e
          rcases List.mem_cons.1 e with h | h
          · exact hc h.symm
          · exact HN.out h)
        clear hc HN
        go_wp2
        go_round
        case rel => exact ⟨k, by omega, rfl, HN2⟩
        case measure => simp [intOf]
theorem lastIdx_any (s : ByteArray) (c : UInt8) (w : World) (hs : s.size ≤ 9223372036854775807) :
    Calls Tryd.prog 37 #[.string s, .int .u8 (c.toNat : Int)] w fun e w' => (∃ k : Nat, e = .returned (.int .i64 ((k : Int) - 1)) ∧ k ≤ s.size ∧ c ∉ s.data.toList.drop k ∧ (k = 0 ∨ ∃ a, s.data.toList = a ++ c :: s.data.toList.drop k ∧ a.length + 1 = k)) ∧ w = w' := by
  go_enter Tryd.func37, Tryd.ntmps37
  go_wp2_with (go_at_call 42; refine (lastIdx_run _ _ _ hs).mono ?_; rintro e w' ⟨⟨k, rfl, hk, hn, ho⟩, rfl⟩; replace hn := Lib.hid hn; replace ho := Lib.hid ho)
  go_ret
  exact ⟨⟨k, rfl, hk, hn.out, ho.out⟩, rfl⟩
end Go.Proofs.YtokknicfnnkldaaDoorRR
