/-
  Contracts of package text: left, Right, Trim, Blank, Token.
-/
import Derived.Test.YtgldgmmljigmdaaKind
import Derived.Lib.IndexBytes
namespace Go.Proofs.Ytgldgmmljigmdaa
open Go.ChangeShapes Go.WideShapes Go.ChangeAt Go.RowKit

/-- a list of bytes as a text -/
def Str (l : List UInt8) : ByteArray := ⟨l.toArray⟩
theorem str_of {t : ByteArray} {l : List UInt8} (h : t.data.toList = l) : t = Str l := by
  subst h
  unfold Str
  rw [Array.toArray_toList]
theorem str_list (l : List UInt8) : (Str l).data.toList = l := by unfold Str; rfl
theorem str_size (l : List UInt8) : (Str l).size = l.length := rfl
theorem ret_of {t : ByteArray} {l : List UInt8} (h : t.data.toList = l) : Ending.returned (.string t) = .returned (.string (Str l)) := by rw [str_of h]
theorem ret_bool {a b : Bool} (h : a = b) : Ending.returned (.bool a) = .returned (.bool b) := by rw [h]
def strSize : Value → Nat
  | .string t => t.size
  | _ => 0
theorem size_list (t : ByteArray) : t.data.toList.length = t.size := by simp
theorem list_cons {t : ByteArray} (h : 0 < t.size) : t.data.toList = t[0] :: t.data.toList.drop 1 := by
  have := snoc_take t 0 h
  simpa using this
theorem isEmpty_of {t : ByteArray} (h : t.data.toList = []) : t.toList.isEmpty = true := by rw [Lib.toList_data, h]; rfl
theorem isEmpty_no {t : ByteArray} (h : 0 < t.size) : t.toList.isEmpty = false := by
  rw [Lib.toList_data, list_cons h]; rfl
theorem tail_list (t : ByteArray) : (t.extract 1 t.size).data.toList = t.data.toList.drop 1 := Lib.extract_to_end t 1
theorem kind_if {c : UInt8} {a b d : Bool} (h1 : Tx.blank c = a) (h2 : Tx.cap c = b) (h3 : Tx.tok c = d) (w : World) :
    Calls Try.prog 25 #[.int .u8 (c.toNat : Int)] w fun e w' => e = .returned (.agg #[.bool a, .bool b, .bool d]) ∧ Below w.heap.size w w' := by
  subst h1 h2 h3
  exact kind_any c w

theorem field0 (a b d : Bool) (W : World) : (Instr.field 41 (.agg #[.bool a, .bool b, .bool d]) 0).run Try.prog W = .ok (.bool a) W := by kernel_rfl
theorem field1 (a b d : Bool) (W : World) : (Instr.field 41 (.agg #[.bool a, .bool b, .bool d]) 1).run Try.prog W = .ok (.bool b) W := by kernel_rfl
theorem field2 (a b d : Bool) (W : World) : (Instr.field 41 (.agg #[.bool a, .bool b, .bool d]) 2).run Try.prog W = .ok (.bool d) W := by kernel_rfl

set_option maxHeartbeats 1000000 in
theorem left_any (s : ByteArray) (w : World) :
    Calls Try.prog 24 #[.string s] w fun e w' => e = .returned (.string (Str (Tx.left s.data.toList))) ∧ Below w.heap.size w w' := by
  have f0 := field0
  go_enter Try.func24, Try.ntmps24
  go_wp2
  go_loopw [0] (fun s0 wr => ∃ t : ByteArray, s0 = .string t ∧ Hid (Tx.left t.data.toList = Tx.left s.data.toList) ∧ Below w.heap.size w wr) (fun s0 _ => strSize s0)
  case atStart => exact ⟨s, rfl, Lib.hid rfl, Below.refl _ _⟩
  case round =>
    obtain ⟨t, rfl, HL, HB⟩ := hrel
    by_cases h0 : t.size = 0
    · have hn : t.data.toList = [] := List.eq_nil_of_length_eq_zero (by rw [size_list, h0])
      have hl := isEmpty_of hn
      have H : Hid (t.data.toList = Tx.left s.data.toList) := Lib.hid (by rw [← HL.out, hn]; rfl)
      clear HL hn h0
      go_wp2
      go_ret
      exact ⟨ret_of H.out, HB⟩
    · have hp : 0 < t.size := by omega
      have hl := isEmpty_no hp
      have HC := Lib.hid (list_cons hp)
      clear h0
      cases hb : Tx.blank t[0] with
      | true =>
        have co := fun W => kind_if hb rfl rfl W
        have H : Hid (Tx.left (t.extract 1 t.size).data.toList = Tx.left s.data.toList) := Lib.hid (by rw [← HL.out, tail_list]; conv => rhs; rw [HC.out, Tx.left_yes hb])
        clear hb HC HL
        go_wp2_with (go_at_call 25; refine (co _).mono ?_; rintro e w1 ⟨rfl, hb1⟩; clear co)
        go_roundw
        case rel => exact ⟨_, rfl, H, HB.trans (hb1.mono HB.size)⟩
        case measure => simp [strSize]; omega
      | false =>
        have co := fun W => kind_if hb rfl rfl W
        have H : Hid (t.data.toList = Tx.left s.data.toList) := Lib.hid (by rw [← HL.out, HC.out, Tx.left_no hb])
        clear hb HC HL
        go_wp2_with (go_at_call 25; refine (co _).mono ?_; rintro e w1 ⟨rfl, hb1⟩; clear co)
        go_ret
        exact ⟨ret_of H.out, HB.trans (hb1.mono HB.size)⟩

theorem init_list (t : ByteArray) : (t.extract 0 (t.size - 1)).data.toList = t.data.toList.take (t.size - 1) := by
  have := Lib.extract_data t 0 (t.size - 1)
  simpa using this
theorem list_snoc {t : ByteArray} (h : 0 < t.size) : t.data.toList = t.data.toList.take (t.size - 1) ++ [t[t.size - 1]] := by
  have hk : t.size - 1 < t.data.toList.length := by rw [size_list]; omega
  have := List.take_succ_eq_append_getElem hk
  rw [show t.size - 1 + 1 = t.size by omega, List.take_of_length_le (by rw [size_list]; omega)] at this
  exact this

set_option maxHeartbeats 1000000 in
theorem right_any (s : ByteArray) (w : World) (hs : s.size ≤ 9223372036854775807) :
    Calls Try.prog 11 #[.string s] w fun e w' => e = .returned (.string (Str (Tx.right s.data.toList))) ∧ Below w.heap.size w w' := by
  have f0 := field0
  go_enter Try.func11, Try.ntmps11
  go_wp2
  go_loopw [0] (fun s0 wr => ∃ t : ByteArray, s0 = .string t ∧ t.size ≤ s.size ∧ Hid (Tx.right t.data.toList = Tx.right s.data.toList) ∧ Below w.heap.size w wr) (fun s0 _ => strSize s0)
  case atStart => exact ⟨s, rfl, Nat.le_refl _, Lib.hid rfl, Below.refl _ _⟩
  case round =>
    obtain ⟨t, rfl, hts, HL, HB⟩ := hrel
    by_cases h0 : t.size = 0
    · have hn : t.data.toList = [] := List.eq_nil_of_length_eq_zero (by rw [size_list, h0])
      have hl := isEmpty_of hn
      have H : Hid (t.data.toList = Tx.right s.data.toList) := Lib.hid (by rw [← HL.out, hn]; rfl)
      clear HL hn h0
      go_wp2
      go_ret
      exact ⟨ret_of H.out, HB⟩
    · have hp : 0 < t.size := by omega
      have hl := isEmpty_no hp
      have HC := Lib.hid (list_snoc hp)
      clear h0
      cases hb : Tx.blank t[t.size - 1] with
      | true =>
        have co := fun W => kind_if hb rfl rfl W
        have H : Hid (Tx.right (t.extract 0 (t.size - 1)).data.toList = Tx.right s.data.toList) := Lib.hid (by rw [← HL.out, init_list]; conv => rhs; rw [HC.out, Tx.right_yes hb])
        clear hb HC HL
        go_wp2_with (go_at_call 25; refine (co _).mono ?_; rintro e w1 ⟨rfl, hb1⟩; clear co)
        go_roundw
        case rel => exact ⟨_, rfl, by simp; omega, H, HB.trans (hb1.mono HB.size)⟩
        case measure => simp [strSize]; omega
      | false =>
        have co := fun W => kind_if hb rfl rfl W
        have H : Hid (t.data.toList = Tx.right s.data.toList) := Lib.hid (by rw [← HL.out, HC.out, Tx.right_no hb])
        clear hb HC HL
        go_wp2_with (go_at_call 25; refine (co _).mono ?_; rintro e w1 ⟨rfl, hb1⟩; clear co)
        go_ret
        exact ⟨ret_of H.out, HB.trans (hb1.mono HB.size)⟩

theorem trim_any (s : ByteArray) (w : World) (hs : s.size ≤ 9223372036854775807) :
    Calls Try.prog 10 #[.string s] w fun e w' => e = .returned (.string (Str (Tx.trim s.data.toList))) ∧ Below w.heap.size w w' := by
  go_enter Try.func10, Try.ntmps10
  go_wp2_with (first | (go_at_call 11; refine (right_any _ _ hs).mono ?_; rintro e w1 ⟨rfl, hb1⟩) | (go_at_call 24; refine (left_any _ _).mono ?_; rintro e w2 ⟨rfl, hb2⟩))
  go_ret
  exact ⟨by rw [str_list]; rfl, hb1.trans (hb2.mono hb1.size)⟩

theorem blank_any (s : ByteArray) (w : World) :
    Calls Try.prog 12 #[.string s] w fun e w' => e = .returned (.bool (decide (Tx.left s.data.toList = []))) ∧ Below w.heap.size w w' := by
  have co := left_any s
  by_cases h : Tx.left s.data.toList = []
  · rw [decide_eq_true h]
    have hl : (Str (Tx.left s.data.toList)).toList.isEmpty = true := isEmpty_of h
    clear h
    go_enter Try.func12, Try.ntmps12
    go_wp2_with (go_at_call 24; refine (co _).mono ?_; rintro e w1 ⟨rfl, hb1⟩)
    go_ret
    exact ⟨rfl, hb1⟩
  · rw [decide_eq_false h]
    have hl : (Str (Tx.left s.data.toList)).toList.isEmpty = false := by
      refine isEmpty_no ?_
      rw [str_size]
      exact List.length_pos_iff.2 h
    clear h
    go_enter Try.func12, Try.ntmps12
    go_wp2_with (go_at_call 24; refine (co _).mono ?_; rintro e w1 ⟨rfl, hb1⟩)
    go_ret
    exact ⟨rfl, hb1⟩

theorem take_snoc (s : ByteArray) (k : Nat) (h : k < s.size) : s.data.toList.take (k + 1) = s.data.toList.take k ++ [s[k]] := by
  rw [List.take_succ_eq_append_getElem (by simpa using h)]; rfl
theorem token_nil {l : List UInt8} (h : l = []) : Tx.token l = false := by subst h; rfl
theorem token_bad {s : ByteArray} {k : Nat} (hk : k < s.size) (h : Tx.tok s[k] = false) : Tx.token s.data.toList = false := by
  unfold Tx.token
  have : s.data.toList.all Tx.tok = false := by
    rw [Bool.eq_false_iff]
    intro e
    rw [List.all_eq_true] at e
    rw [e s[k] (by rw [← List.take_append_drop k s.data.toList, snoc_take s k hk]; simp)] at h
    cases h
  rw [this]; rfl
theorem token_all {l : List UInt8} (h : l.all Tx.tok = true) (h0 : 0 < l.length) : Tx.token l = true := by
  unfold Tx.token
  rw [h]
  cases l with
  | nil => simp at h0
  | cons x l => rfl

set_option maxHeartbeats 1000000 in
theorem token_any (s : ByteArray) (w : World) (hs : s.size ≤ 9223372036854775807) :
    Calls Try.prog 15 #[.string s] w fun e w' => e = .returned (.bool (Tx.token s.data.toList)) ∧ Below w.heap.size w w' := by
  have f2 := field2
  go_enter Try.func15, Try.ntmps15
  go_wp2
  go_loopw [6] (fun i wr => ∃ k : Nat, k ≤ s.size ∧ i = .int .i64 k ∧ Hid ((s.data.toList.take k).all Tx.tok = true) ∧ Below w.heap.size w wr) (fun i _ => s.size - (intOf i).toNat)
  case atStart => exact ⟨0, by omega, rfl, Lib.hid (by simp), Below.refl _ _⟩
  case round =>
    obtain ⟨k, hk, rfl, HA, HB⟩ := hrel
    by_cases hlt : k < s.size
    · cases hb : Tx.tok s[k] with
      | true =>
        have co := fun W => kind_if rfl rfl hb W
        have H : Hid ((s.data.toList.take (k + 1)).all Tx.tok = true) := Lib.hid (by rw [take_snoc s k hlt, List.all_append, HA.out]; simp [hb])
        clear hb HA
        go_wp2_with (go_at_call 25; refine (co _).mono ?_; rintro e w1 ⟨rfl, hb1⟩; clear co)
        go_roundw
        case rel => exact ⟨k + 1, by omega, by go_num, H, HB.trans (hb1.mono HB.size)⟩
        case measure => simp [intOf]; omega
      | false =>
        have co := fun W => kind_if rfl rfl hb W
        have H : Hid (false = Tx.token s.data.toList) := Lib.hid (token_bad hlt hb).symm
        clear hb HA
        go_wp2_with (go_at_call 25; refine (co _).mono ?_; rintro e w1 ⟨rfl, hb1⟩; clear co)
        go_ret
        exact ⟨ret_bool H.out, HB.trans (hb1.mono HB.size)⟩
    · have hall : s.data.toList.all Tx.tok = true := by
        have := HA.out
        rwa [List.take_of_length_le (by rw [size_list]; omega)] at this
      by_cases h0 : s.size = 0
      · have hn : s.data.toList = [] := List.eq_nil_of_length_eq_zero (by rw [size_list, h0])
        have hl := isEmpty_of hn
        have H : Hid (false = Tx.token s.data.toList) := Lib.hid (token_nil hn).symm
        clear HA hn hall
        go_wp2
        go_ret
        exact ⟨ret_bool H.out, HB⟩
      · have hl := isEmpty_no (t := s) (by omega)
        have H : Hid (true = Tx.token s.data.toList) := Lib.hid (token_all hall (by rw [size_list]; omega)).symm
        clear HA hall
        go_wp2
        go_ret
        exact ⟨ret_bool H.out, HB⟩
end Go.Proofs.Ytgldgmmljigmdaa
