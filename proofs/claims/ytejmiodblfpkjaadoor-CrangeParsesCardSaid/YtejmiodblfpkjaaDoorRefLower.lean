/-
  Contract of the document's own Lower.
-/
import Derived.Test.YtejmiodblfpkjaaDoorRefText
namespace Go.Proofs.YtejmiodblfpkjaaDoor
open Go.ChangeShapes Go.WideShapes Go.ChangeAt Go.RowKit

theorem conv_byte (b : Int) (w : World) : (convert 55 9 (.slice (some ⟨w.heap.size, 0, none⟩) 1 1)).run Tryd.prog (w.alloc (.cells #[.int .u8 b] 5)) = .ok (.string ⟨#[UInt8.ofNat b.toNat]⟩) (w.alloc (.cells #[.int .u8 b] 5)) := by
  rw [run_convert_bytes_string _ _ _ 5 _ _ _ Tryd.underlying55 Tryd.underlying5 Tryd.underlying9]
  refine run_bytesToString _ _ 1 1 [b] ?_
  have hl := run_loadCells_list (P := Tryd.prog) (w.alloc (.cells #[.int .u8 b] 5)) ⟨w.heap.size, 0, none⟩ [.int .u8 b] (by
    intro j v hj
    rcases j with _ | j
    · obtain rfl : Value.int .u8 b = v := by simpa using hj
      exact (World.cell?_alloc_new _ _ _ 0).trans rfl
    · simp at hj)
  exact hl
theorem cat_size (t : ByteArray) (c : UInt8) : (t ++ ByteArray.mk #[c]).size = t.size + 1 := by rw [ByteArray.size_append]; rfl
theorem cat_str (t : ByteArray) (c : UInt8) : (t ++ ByteArray.mk #[c]).data.toList = t.data.toList ++ [c] := by simp

set_option maxHeartbeats 1000000 in
theorem refLower_any (s : ByteArray) (w : World) (hs : s.size ≤ 140737488355328) :
    Calls Tryd.prog 19 #[.string s] w fun e w' => e = .returned (.string (Str (s.data.toList.map Tx.low))) ∧ Below w.heap.size w w' := by
  have hconv := conv_byte
  go_enter Tryd.func19, Tryd.ntmps19
  go_wp2
  go_loopw [3, 4] (fun o i wr => ∃ (k : Nat) (t : ByteArray), k ≤ s.size ∧ i = .int .i64 k ∧ o = .string t ∧ t.size ≤ k ∧ Hid (t.data.toList = (s.data.toList.take k).map Tx.low) ∧ Below w.heap.size w wr) (fun _ i _ => s.size - (intOf i).toNat)
  case atStart => exact ⟨0, _, by omega, rfl, rfl, Nat.le_refl 0, Lib.hid rfl, Below.refl _ _⟩
  case round =>
    obtain ⟨k, t, hk, rfl, rfl, ht, HT, HB⟩ := hrel
    by_cases hlt : k < s.size
    · have hsum : t.size + 1 ≤ 9223372036854775807 := by omega
      obtain ⟨c, hc⟩ : ∃ c, c = s[k] := ⟨_, rfl⟩
      cases hb : Tx.cap s[k] with
      | true =>
        obtain ⟨b0, b1, b2, b3⟩ := low_cap hb
        have H : Hid ((t ++ ByteArray.mk #[s[k] + 32]).data.toList = (s.data.toList.take (k + 1)).map Tx.low) := Lib.hid (by rw [cat_str, take_snoc s k hlt, List.map_append, HT.out, ← b0]; rfl)
        clear HT hb b0 b3 hc
        go_wp2
        go_roundw
        case rel => exact ⟨k + 1, _, by omega, by go_num, rfl, by rw [cat_size]; omega, H, HB.alloc (by have := HB.size; omega) _⟩
        case measure => simp [intOf]; omega
      | false =>
        have b0 := low_no hb
        have hor : (s[k].toNat : Int) < 65 ∨ 90 < (s[k].toNat : Int) := by
          by_cases h1 : 65 ≤ (s[k].toNat : Int)
          · by_cases h2 : (s[k].toNat : Int) ≤ 90
            · rw [show Tx.cap s[k] = true from within_yes h1 h2] at hb; cases hb
            · omega
          · omega
        have H : Hid ((t ++ ByteArray.mk #[s[k]]).data.toList = (s.data.toList.take (k + 1)).map Tx.low) := Lib.hid (by rw [cat_str, take_snoc s k hlt, List.map_append, HT.out, List.map_cons, List.map_nil, b0])
        clear HT hb b0 hc
        rcases hor with h1 | h1
        · go_wp2
          go_roundw
          case rel => exact ⟨k + 1, _, by omega, by go_num, rfl, by rw [cat_size]; omega, H, HB.alloc (by have := HB.size; omega) _⟩
          case measure => simp [intOf]; omega
        · have hd : decide ((s[k].toNat : Int) ≤ 90) = false := decide_eq_false (by omega)
          go_wp2
          go_roundw
          case rel => exact ⟨k + 1, _, by omega, by go_num, rfl, by rw [cat_size]; omega, H, HB.alloc (by have := HB.size; omega) _⟩
          case measure => simp [intOf]; omega
    · have H : Hid (t.data.toList = s.data.toList.map Tx.low) := Lib.hid (by rw [HT.out, List.take_of_length_le (by rw [size_list]; omega)])
      clear HT
      go_wp2
      go_ret
      exact ⟨ret_of H.out, HB⟩
end Go.Proofs.YtejmiodblfpkjaaDoor
