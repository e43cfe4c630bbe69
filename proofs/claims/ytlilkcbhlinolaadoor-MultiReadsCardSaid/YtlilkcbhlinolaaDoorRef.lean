/-
  Contracts of the document's own answers: digits of a number.
-/
import Derived.Test.YtlilkcbhlinolaaDoorNums
import Derived.Test.YtlilkcbhlinolaaDoorShelf
import Derived.WalkLawsBesides
import Derived.Laws.BytesString
import Derived.Below
import Derived.Lib.ItoaLen
namespace Go.Proofs.YtlilkcbhlinolaaDoor
open Go.ChangeShapes Go.WideShapes Go.ChangeAt Go.RowKit

theorem conv_one (b : Int) (w : World) : (convert 25 9 (.slice (some ⟨w.heap.size, 0, none⟩) 1 1)).run Tryd.prog (w.alloc (.cells #[.int .u8 b] 5)) = .ok (.string ⟨#[UInt8.ofNat b.toNat]⟩) (w.alloc (.cells #[.int .u8 b] 5)) := by
  rw [run_convert_bytes_string _ _ _ 5 _ _ _ Tryd.underlying25 Tryd.underlying5 Tryd.underlying9]
  refine run_bytesToString _ _ 1 1 [b] ?_
  have hl := run_loadCells_list (P := Tryd.prog) (w.alloc (.cells #[.int .u8 b] 5)) ⟨w.heap.size, 0, none⟩ [.int .u8 b] (by
    intro j v hj
    rcases j with _ | j
    · obtain rfl : Value.int .u8 b = v := by simpa using hj
      exact (World.cell?_alloc_new _ _ _ 0).trans rfl
    · simp at hj)
  exact hl

theorem ret_str {l l' : List UInt8} (h : l = l') : Ending.returned (.string ⟨l.toArray⟩) = .returned (.string ⟨l'.toArray⟩) := by rw [h]

theorem cat_one (c : UInt8) (l : List UInt8) : (ByteArray.mk #[c]) ++ (ByteArray.mk l.toArray) = ByteArray.mk (c :: l).toArray := ByteArray.mk_append_mk [c] l

set_option maxHeartbeats 400000 in
theorem digits_any (u0 : Nat) (w : World) (hu : u0 < 18446744073709551616) :
    Calls Tryd.prog 44 #[.int .u64 u0] w fun e w' => e = .returned (.string ⟨(Lib.decDigits u0).toArray⟩) ∧ Below w.heap.size w w' := by
  have hconv := conv_one
  go_enter Tryd.func44, Tryd.ntmps44
  go_wp2
  go_loopg [0, 3] u0 (fun g s0 s3 wr => ∃ (c : UInt8) (l : List UInt8), s0 = .int .u64 (g : Int) ∧ s3 = .string ⟨(c :: l).toArray⟩ ∧ g < 18446744073709551616 ∧ l.length + Lib.nDigits g = Lib.nDigits u0 ∧ Hid (c = UInt8.ofNat (48 + g % 10)) ∧ Hid (Lib.decDigits g ++ l = Lib.decDigits u0) ∧ Below w.heap.size w wr)
  case atStart => exact ⟨_, [], rfl, rfl, hu, by simp, Lib.hid (by simp), Lib.hid (by simp), (Below.refl _ _).alloc (Nat.le_refl _) _⟩
  case round =>
    obtain ⟨c, l, rfl, rfl, hg, hlen, HC, HD, HB⟩ := hrel
    by_cases hge : gk < 10
    · go_wp2
      go_ret
      exact ⟨ret_str (by rw [← HD.out, Lib.decDigits_one hge, HC.out, Nat.mod_eq_of_lt hge]; rfl), HB⟩
    · have hn20 := Lib.nDigits_le20 u0 hu
      have hsum : 1 + (l.length + 1) ≤ 9223372036854775807 := by omega
      have hD := Lib.nDigits_big hge
      have HD2 : Hid (Lib.decDigits (gk / 10) ++ (c :: l) = Lib.decDigits u0) := by
        refine Lib.hid ?_
        rw [← HD.out, HC.out]
        conv => rhs; rw [Lib.decDigits, dif_neg hge]
        simp
      have hlen2 : (c :: l).length + Lib.nDigits (gk / 10) = Lib.nDigits u0 := by rw [List.length_cons]; omega
      clear hlen HC HD hD hn20
      have HL := Lib.hid hlen2
      clear hlen2
      go_wp2
      go_roundg (gk / 10)
      case measure => omega
      case rel => exact ⟨_, _, by go_num, congrArg Value.string (cat_one _ _), by omega, HL.out, Lib.hid (by simp), HD2, HB.alloc (by have := HB.size; omega) _⟩

set_option maxHeartbeats 400000 in
theorem refPrint_any (k : Int) (w : World) (h0 : -9223372036854775808 ≤ k) (h1 : k ≤ 9223372036854775807) :
    Calls Tryd.prog 34 #[.int .i64 k] w fun e w' => e = .returned (.string ⟨(Lib.itoa k).toArray⟩) ∧ Below w.heap.size w w' := by
  by_cases hk : k < 0
  · have hd := digits_any k.natAbs w (by omega)
    have hn : ((k.natAbs : Nat) : Int) = -(k + 1) + 1 := by omega
    rw [hn] at hd
    have hlen : (Lib.decDigits k.natAbs).length ≤ 20 := by rw [Lib.decDigits_length]; exact Lib.nDigits_le20 _ (by omega)
    have hsum : 1 + (Lib.decDigits k.natAbs).length ≤ 9223372036854775807 := by omega
    have HI : Hid (Lib.itoa k = 45 :: Lib.decDigits k.natAbs) := Lib.hid (by unfold Lib.itoa; rw [if_pos hk])
    clear hn hlen
    go_enter Tryd.func34, Tryd.ntmps34
    go_wp2_with (go_at_call 44; refine hd.mono ?_; rintro e w' ⟨rfl, HB⟩)
    go_ret
    exact ⟨(congrArg (fun b => Ending.returned (.string b)) (cat_one _ _)).trans (ret_str HI.out.symm), HB⟩
  · have hd := digits_any k.toNat w (by omega)
    have hn : ((k.toNat : Nat) : Int) = k := by omega
    rw [hn] at hd
    have HI : Hid (Lib.itoa k = Lib.decDigits k.toNat) := Lib.hid (by unfold Lib.itoa; rw [if_neg hk])
    clear hn
    go_enter Tryd.func34, Tryd.ntmps34
    go_wp2_with (go_at_call 44; refine hd.mono ?_; rintro e w' ⟨rfl, HB⟩)
    go_ret
    exact ⟨ret_str HI.out.symm, HB⟩
end Go.Proofs.YtlilkcbhlinolaaDoor
