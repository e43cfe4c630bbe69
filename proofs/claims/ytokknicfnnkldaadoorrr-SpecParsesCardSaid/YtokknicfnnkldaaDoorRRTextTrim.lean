/-
  Contracts of package text: left, Right, Trim; a text as a list.
-/
import Derived.Test.YtokknicfnnkldaaDoorRRKind
import Derived.Lib.IndexBytes
namespace Go.Proofs.YtokknicfnnkldaaDoorRR
open Go.ChangeShapes Go.WideShapes Go.ChangeAt Go.RowKit

/-- a list of bytes as a text -/
def Str (l : List UInt8) : ByteArray := ⟨l.toArray⟩
theorem str_of {t : ByteArray} {l : List UInt8} (h : t.data.toList = l) : t = Str l := by
  subst h
  unfold Str
  rw [Array.toArray_toList]
theorem str_list (l : List UInt8) : (Str l).data.toList = l := by unfold Str; rfl
theorem str_size (l : List UInt8) : (Str l).size = l.length := rfl
theorem ret_of {t : ByteArray} {l : List UInt8} (h : t.data.toList = l) : Ending.returned (.string t) = .returned (.string (Str l)) := by rw [str_of h]
theorem ret_bool {a b : Bool} (h : a = b) : Ending.returned (.bool a) = .returned (.bool b) := by rw [h]
def strSize : Value → Nat
  | .string t => t.size
  | _ => 0
theorem size_list (t : ByteArray) : t.data.toList.length = t.size := by simp
theorem list_cons {t : ByteArray} (h : 0 < t.size) : t.data.toList = t[0] :: t.data.toList.drop 1 := by
  have := snoc_take t 0 h
  simpa using this
theorem isEmpty_of {t : ByteArray} (h : t.data.toList = []) : t.toList.isEmpty = true := by rw [Lib.toList_data, h]; rfl
theorem isEmpty_no {t : ByteArray} (h : 0 < t.size) : t.toList.isEmpty = false := by
  rw [Lib.toList_data, list_cons h]; rfl
theorem tail_list (t : ByteArray) : (t.extract 1 t.size).data.toList = t.data.toList.drop 1 := Lib.extract_to_end t 1
theorem kind_if {c : UInt8} {a b d : Bool} (h1 : Tx.blank c = a) (h2 : Tx.cap c = b) (h3 : Tx.tok c = d) (w : World) :
    Calls Tryd.prog 36 #[.int .u8 (c.toNat : Int)] w fun e w' => e = .returned (.agg #[.bool a, .bool b, .bool d]) ∧ Below w.heap.size w w' := by
  subst h1 h2 h3
  exact kind_any c w
theorem take_snoc (s : ByteArray) (k : Nat) (h : k < s.size) : s.data.toList.take (k + 1) = s.data.toList.take k ++ [s[k]] := by
  rw [List.take_succ_eq_append_getElem (by simpa using h)]; rfl
theorem extract_take (s : ByteArray) (k : Nat) : (s.extract 0 k).data.toList = s.data.toList.take k := by
  rw [Lib.extract_data]; simp
theorem ret_int {a b : Int} (h : a = b) : Ending.returned (.int .i64 a) = .returned (.int .i64 b) := by rw [h]
/-- a test '!=' wants both spellings -/
theorem ne_of {a b : Int} {q : Bool} (h : (a == b) = q) : (a != b) = !q := by unfold bne; rw [h]
theorem str_same (t : ByteArray) : Str t.data.toList = t := (str_of rfl).symm
theorem cat_list (a b : ByteArray) : (a ++ b).data.toList = a.data.toList ++ b.data.toList := by
  rw [ByteArray.data_append, Array.toList_append]
theorem str_empty (l : List UInt8) : (Str l).toList.isEmpty = l.isEmpty := by rw [Lib.toList_data, str_list]
theorem str_eq (l : List UInt8) (U : ByteArray) : ((Str l).toList == U.toList) = (l == U.data.toList) := by rw [Lib.toList_data, Lib.toList_data, str_list]
theorem u8_eq (c d : UInt8) : (c == d) = ((c.toNat : Int) == (d.toNat : Int)) := by
  rw [Bool.eq_iff_iff, beq_iff_eq, beq_iff_eq]
  exact ⟨fun e => by rw [e], fun e => UInt8.toNat_inj.1 (by omega)⟩
theorem below_one (w : World) (o : Obj) : Below w.heap.size w (w.alloc o) := (Below.refl _ _).alloc (Nat.le_refl _) _

theorem field0 (a b d : Bool) (W : World) : (Instr.field 59 (.agg #[.bool a, .bool b, .bool d]) 0).run Tryd.prog W = .ok (.bool a) W := by kernel_rfl
theorem field1 (a b d : Bool) (W : World) : (Instr.field 59 (.agg #[.bool a, .bool b, .bool d]) 1).run Tryd.prog W = .ok (.bool b) W := by kernel_rfl
theorem field2 (a b d : Bool) (W : World) : (Instr.field 59 (.agg #[.bool a, .bool b, .bool d]) 2).run Tryd.prog W = .ok (.bool d) W := by kernel_rfl

set_option maxHeartbeats 1000000 in
theorem left_any (s : ByteArray) (w : World) :
    Calls Tryd.prog 27 #[.string s] w fun e w' => e = .returned (.string (Str (Tx.left s.data.toList))) ∧ Below w.heap.size w w' := by
  have f0 := field0
  go_enter Tryd.func27, Tryd.ntmps27
  go_wp2
  go_loopw [0] (fun s0 wr => ∃ t : ByteArray, s0 = .string t ∧ Hid (Tx.left t.data.toList = Tx.left s.data.toList) ∧ Below w.heap.size w wr) (fun s0 _ => strSize s0)
  case atStart => exact ⟨s, rfl, Lib.hid rfl, Below.refl _ _⟩
  case round =>
    obtain ⟨t, rfl, HL, HB⟩ := hrel
    by_cases h0 : t.size = 0
    · have hn : t.data.toList = [] := List.eq_nil_of_length_eq_zero (by rw [size_list, h0])
      have hl := isEmpty_of hn
      have H : Hid (t.data.toList = Tx.left s.data.toList) := Lib.hid (by rw [← HL.out, hn]; rfl)
      clear HL hn h0
      go_wp2
      go_ret
      exact ⟨ret_of H.out, HB⟩
    · have hp : 0 < t.size := by omega
      have hl := isEmpty_no hp
      have HC := Lib.hid (list_cons hp)
      clear h0
      cases hb : Tx.blank t[0] with
      | true =>
        have co := fun W => kind_if hb rfl rfl W
        have H : Hid (Tx.left (t.extract 1 t.size).data.toList = Tx.left s.data.toList) := Lib.hid (by rw [← HL.out, tail_list]; conv => rhs; rw [HC.out, Tx.left_yes hb])
        clear hb HC HL
        go_wp2_with (go_at_call 36; refine (co _).mono ?_; rintro e w1 ⟨rfl, hb1⟩; clear co)
        go_roundw
        case rel => exact ⟨_, rfl, H, HB.trans (hb1.mono HB.size)⟩
        case measure => simp [strSize]; omega
      | false =>
        have co := fun W => kind_if hb rfl rfl W
        have H : Hid (t.data.toList = Tx.left s.data.toList) := Lib.hid (by rw [← HL.out, HC.out, Tx.left_no hb])
        clear hb HC HL
        go_wp2_with (go_at_call 36; refine (co _).mono ?_; rintro e w1 ⟨rfl, hb1⟩; clear co)
        go_ret
        exact ⟨ret_of H.out, HB.trans (hb1.mono HB.size)⟩

theorem init_list (t : ByteArray) : (t.extract 0 (t.size - 1)).data.toList = t.data.toList.take (t.size - 1) := by
  have := Lib.extract_data t 0 (t.size - 1)
  simpa using this
theorem list_snoc {t : ByteArray} (h : 0 < t.size) : t.data.toList = t.data.toList.take (t.size - 1) ++ [t[t.size - 1]] := by
  have hk : t.size - 1 < t.data.toList.length := by rw [size_list]; omega
  have := List.take_succ_eq_append_getElem hk
  rw [show t.size - 1 + 1 = t.size by omega, List.take_of_length_le (by rw [size_list]; omega)] at this
  exact this

set_option maxHeartbeats 1000000 in
theorem right_any (s : ByteArray) (w : World) (hs : s.size ≤ 9223372036854775807) :
    Calls Tryd.prog 28 #[.string s] w fun e w' => e = .returned (.string (Str (Tx.right s.data.toList))) ∧ Below w.heap.size w w' := by
  have f0 := field0
  go_enter Tryd.func28, Tryd.ntmps28
  go_wp2
  go_loopw [0] (fun s0 wr => ∃ t : ByteArray, s0 = .string t ∧ t.size ≤ s.size ∧ Hid (Tx.right t.data.toList = Tx.right s.data.toList) ∧ Below w.heap.size w wr) (fun s0 _ => strSize s0)
  case atStart => exact ⟨s, rfl, Nat.le_refl _, Lib.hid rfl, Below.refl _ _⟩
  case round =>
    obtain ⟨t, rfl, hts, HL, HB⟩ := hrel
    by_cases h0 : t.size = 0
    · have hn : t.data.toList = [] := List.eq_nil_of_length_eq_zero (by rw [size_list, h0])
      have hl := isEmpty_of hn
      have H : Hid (t.data.toList = Tx.right s.data.toList) := Lib.hid (by rw [← HL.out, hn]; rfl)
      clear HL hn h0
      go_wp2
      go_ret
      exact ⟨ret_of H.out, HB⟩
    · have hp : 0 < t.size := by omega
      have hl := isEmpty_no hp
      have HC := Lib.hid (list_snoc hp)
      clear h0
      cases hb : Tx.blank t[t.size - 1] with
      | true =>
        have co := fun W => kind_if hb rfl rfl W
        have H : Hid (Tx.right (t.extract 0 (t.size - 1)).data.toList = Tx.right s.data.toList) := Lib.hid (by rw [← HL.out, init_list]; conv => rhs; rw [HC.out, Tx.right_yes hb])
        clear hb HC HL
        go_wp2_with (go_at_call 36; refine (co _).mono ?_; rintro e w1 ⟨rfl, hb1⟩; clear co)
        go_roundw
        case rel => exact ⟨_, rfl, by simp; omega, H, HB.trans (hb1.mono HB.size)⟩
        case measure => simp [strSize]; omega
      | false =>
        have co := fun W => kind_if hb rfl rfl W
        have H : Hid (t.data.toList = Tx.right s.data.toList) := Lib.hid (by rw [← HL.out, HC.out, Tx.right_no hb])
        clear hb HC HL
        go_wp2_with (go_at_call 36; refine (co _).mono ?_; rintro e w1 ⟨rfl, hb1⟩; clear co)
        go_ret
        exact ⟨ret_of H.out, HB.trans (hb1.mono HB.size)⟩

theorem trim_any (s : ByteArray) (w : World) (hs : s.size ≤ 9223372036854775807) :
    Calls Tryd.prog 18 #[.string s] w fun e w' => e = .returned (.string (Str (Tx.trim s.data.toList))) ∧ Below w.heap.size w w' := by
  go_enter Tryd.func18, Tryd.ntmps18
  go_wp2_with (first | (go_at_call 28; refine (right_any _ _ hs).mono ?_; rintro e w1 ⟨rfl, hb1⟩) | (go_at_call 27; refine (left_any _ _).mono ?_; rintro e w2 ⟨rfl, hb2⟩))
  go_ret
  exact ⟨by rw [str_list]; rfl, hb1.trans (hb2.mono hb1.size)⟩
end Go.Proofs.YtokknicfnnkldaaDoorRR
