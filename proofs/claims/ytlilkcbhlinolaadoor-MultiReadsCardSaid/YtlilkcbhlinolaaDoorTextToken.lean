/-
  Contract of package text: Token.
-/
import Derived.Test.YtlilkcbhlinolaaDoorTextStr
namespace Go.Proofs.YtlilkcbhlinolaaDoor
open Go.ChangeShapes Go.WideShapes Go.ChangeAt Go.RowKit

theorem token_nil {l : List UInt8} (h : l = []) : Tx.token l = false := by subst h; rfl
theorem token_bad {s : ByteArray} {k : Nat} (hk : k < s.size) (h : Tx.tok s[k] = false) : Tx.token s.data.toList = false := by
  unfold Tx.token
  have : s.data.toList.all Tx.tok = false := by
    rw [Bool.eq_false_iff]
    intro e
    rw [List.all_eq_true] at e
    rw [e s[k] (by rw [← List.take_append_drop k s.data.toList, snoc_take s k hk]; simp)] at h
    cases h
  rw [this]; rfl
theorem token_all {l : List UInt8} (h : l.all Tx.tok = true) (h0 : 0 < l.length) : Tx.token l = true := by
  unfold Tx.token
  rw [h]
  cases l with
  | nil => simp at h0
  | cons x l => rfl

set_option maxHeartbeats 1000000 in
theorem token_any (s : ByteArray) (w : World) (hs : s.size ≤ 9223372036854775807) :
    Calls Tryd.prog 38 #[.string s] w fun e w' => e = .returned (.bool (Tx.token s.data.toList)) ∧ Below w.heap.size w w' := by
  have f2 := field2
  go_enter Tryd.func38, Tryd.ntmps38
  go_wp2
  go_loopw [6] (fun i wr => ∃ k : Nat, k ≤ s.size ∧ i = .int .i64 k ∧ Hid ((s.data.toList.take k).all Tx.tok = true) ∧ Below w.heap.size w wr) (fun i _ => s.size - (intOf i).toNat)
  case atStart => exact ⟨0, by omega, rfl, Lib.hid (by simp), Below.refl _ _⟩
  case round =>
    obtain ⟨k, hk, rfl, HA, HB⟩ := hrel
    by_cases hlt : k < s.size
    · cases hb : Tx.tok s[k] with
      | true =>
        have co := fun W => kind_if rfl rfl hb W
        have H : Hid ((s.data.toList.take (k + 1)).all Tx.tok = true) := Lib.hid (by rw [take_snoc s k hlt, List.all_append, HA.out]; simp [hb])
        clear hb HA
        go_wp2_with (go_at_call 48; refine (co _).mono ?_; rintro e w1 ⟨rfl, hb1⟩; clear co)
        go_roundw
        case rel => exact ⟨k + 1, by omega, by go_num, H, HB.trans (hb1.mono HB.size)⟩
        case measure => simp [intOf]; omega
      | false =>
        have co := fun W => kind_if rfl rfl hb W
        have H : Hid (false = Tx.token s.data.toList) := Lib.hid (token_bad hlt hb).symm
        clear hb HA
        go_wp2_with (go_at_call 48; refine (co _).mono ?_; rintro e w1 ⟨rfl, hb1⟩; clear co)
        go_ret
        exact ⟨ret_bool H.out, HB.trans (hb1.mono HB.size)⟩
    · have hall : s.data.toList.all Tx.tok = true := by
        have := HA.out
        rwa [List.take_of_length_le (by rw [size_list]; omega)] at this
      by_cases h0 : s.size = 0
      · have hn : s.data.toList = [] := List.eq_nil_of_length_eq_zero (by rw [size_list, h0])
        have hl := isEmpty_of hn
        have H : Hid (false = Tx.token s.data.toList) := Lib.hid (token_nil hn).symm
        clear HA hn hall
        go_wp2
        go_ret
        exact ⟨ret_bool H.out, HB⟩
      · have hl := isEmpty_no (t := s) (by omega)
        have H : Hid (true = Tx.token s.data.toList) := Lib.hid (token_all hall (by rw [size_list]; omega)).symm
        clear HA hall
        go_wp2
        go_ret
        exact ⟨ret_bool H.out, HB⟩
end Go.Proofs.YtlilkcbhlinolaaDoor
