/-
  A text as a list; plain laws of texts; what kindOf answers.
-/
import Derived.Test.YtlilkcbhlinolaaDoorKind
import Derived.Lib.IndexBytes
namespace Go.Proofs.YtlilkcbhlinolaaDoor
open Go.ChangeShapes Go.WideShapes Go.ChangeAt Go.RowKit

/-- a list of bytes as a text -/
def Str (l : List UInt8) : ByteArray := ⟨l.toArray⟩
theorem str_of {t : ByteArray} {l : List UInt8} (h : t.data.toList = l) : t = Str l := by
  subst h
  unfold Str
  rw [Array.toArray_toList]
theorem str_list (l : List UInt8) : (Str l).data.toList = l := by unfold Str; rfl
theorem str_size (l : List UInt8) : (Str l).size = l.length := rfl
theorem ret_of {t : ByteArray} {l : List UInt8} (h : t.data.toList = l) : Ending.returned (.string t) = .returned (.string (Str l)) := by rw [str_of h]
theorem ret_bool {a b : Bool} (h : a = b) : Ending.returned (.bool a) = .returned (.bool b) := by rw [h]
def strSize : Value → Nat
  | .string t => t.size
  | _ => 0
theorem size_list (t : ByteArray) : t.data.toList.length = t.size := by simp
theorem list_cons {t : ByteArray} (h : 0 < t.size) : t.data.toList = t[0] :: t.data.toList.drop 1 := by
  have := snoc_take t 0 h
  simpa using this
theorem isEmpty_of {t : ByteArray} (h : t.data.toList = []) : t.toList.isEmpty = true := by rw [Lib.toList_data, h]; rfl
theorem isEmpty_no {t : ByteArray} (h : 0 < t.size) : t.toList.isEmpty = false := by
  rw [Lib.toList_data, list_cons h]; rfl
theorem tail_list (t : ByteArray) : (t.extract 1 t.size).data.toList = t.data.toList.drop 1 := Lib.extract_to_end t 1
theorem kind_if {c : UInt8} {a b d : Bool} (h1 : Tx.blank c = a) (h2 : Tx.cap c = b) (h3 : Tx.tok c = d) (w : World) :
    Calls Tryd.prog 48 #[.int .u8 (c.toNat : Int)] w fun e w' => e = .returned (.agg #[.bool a, .bool b, .bool d]) ∧ Below w.heap.size w w' := by
  subst h1 h2 h3
  exact kind_any c w
theorem take_snoc (s : ByteArray) (k : Nat) (h : k < s.size) : s.data.toList.take (k + 1) = s.data.toList.take k ++ [s[k]] := by
  rw [List.take_succ_eq_append_getElem (by simpa using h)]; rfl
theorem extract_take (s : ByteArray) (k : Nat) : (s.extract 0 k).data.toList = s.data.toList.take k := by
  rw [Lib.extract_data]; simp
theorem ret_int {a b : Int} (h : a = b) : Ending.returned (.int .i64 a) = .returned (.int .i64 b) := by rw [h]
/-- a test '!=' wants both spellings -/
theorem ne_of {a b : Int} {q : Bool} (h : (a == b) = q) : (a != b) = !q := by unfold bne; rw [h]
theorem str_same (t : ByteArray) : Str t.data.toList = t := (str_of rfl).symm
theorem cat_list (a b : ByteArray) : (a ++ b).data.toList = a.data.toList ++ b.data.toList := by
  rw [ByteArray.data_append, Array.toList_append]
theorem str_empty (l : List UInt8) : (Str l).toList.isEmpty = l.isEmpty := by rw [Lib.toList_data, str_list]
theorem str_eq (l : List UInt8) (U : ByteArray) : ((Str l).toList == U.toList) = (l == U.data.toList) := by rw [Lib.toList_data, Lib.toList_data, str_list]
theorem u8_eq (c d : UInt8) : (c == d) = ((c.toNat : Int) == (d.toNat : Int)) := by
  rw [Bool.eq_iff_iff, beq_iff_eq, beq_iff_eq]
  exact ⟨fun e => by rw [e], fun e => UInt8.toNat_inj.1 (by omega)⟩
theorem below_one (w : World) (o : Obj) : Below w.heap.size w (w.alloc o) := (Below.refl _ _).alloc (Nat.le_refl _) _

theorem field0 (a b d : Bool) (W : World) : (Instr.field 94 (.agg #[.bool a, .bool b, .bool d]) 0).run Tryd.prog W = .ok (.bool a) W := by kernel_rfl
theorem field1 (a b d : Bool) (W : World) : (Instr.field 94 (.agg #[.bool a, .bool b, .bool d]) 1).run Tryd.prog W = .ok (.bool b) W := by kernel_rfl
theorem field2 (a b d : Bool) (W : World) : (Instr.field 94 (.agg #[.bool a, .bool b, .bool d]) 2).run Tryd.prog W = .ok (.bool d) W := by kernel_rfl

theorem init_list (t : ByteArray) : (t.extract 0 (t.size - 1)).data.toList = t.data.toList.take (t.size - 1) := by
  have := Lib.extract_data t 0 (t.size - 1)
  simpa using this
theorem list_snoc {t : ByteArray} (h : 0 < t.size) : t.data.toList = t.data.toList.take (t.size - 1) ++ [t[t.size - 1]] := by
  have hk : t.size - 1 < t.data.toList.length := by rw [size_list]; omega
  have := List.take_succ_eq_append_getElem hk
  rw [show t.size - 1 + 1 = t.size by omega, List.take_of_length_le (by rw [size_list]; omega)] at this
  exact this
end Go.Proofs.YtlilkcbhlinolaaDoor
