/-
  Contract of crc.Seal.
-/
import Derived.Test.YtndbjdnfibpicaaRMCrc
import Derived.Test.YtndbjdnfibpicaaRMBytes
namespace Go.Proofs.YtndbjdnfibpicaaR
open Go.ChangeShapes Go.WideShapes Go.ChangeAt Go.RowKit
set_option maxRecDepth 100000

theorem low_int (s k : Nat) : (s : Int) / 2 ^ k % 256 = ((Cm.low s k).toNat : Int) := by
  rw [Cm.low_toNat, Int.natCast_emod, Int.natCast_ediv, Int.natCast_pow]
  rfl

set_option maxHeartbeats 400000 in
theorem seal_any (A : Option Addr) (n c : Nat) (l : List UInt8) (B : Nat) (w : World) (hs : Bs w B A n l) (hB : B ≤ w.heap.size) (hn : n ≤ 140737488355328) :
    Calls Try.prog 82 #[.slice A n c] w fun e w' => e = .returned (.slice (some ⟨w.heap.size, 0, none⟩) (n + 4) (n + 4)) ∧ Row 5 w' w.heap.size (Cm.sealed l) ∧ Below w.heap.size w w' := by
  have hmk := make_bytes (n + 4) (by omega)
  rw [show ((n + 4 : Nat) : Int) = (n : Int) + 4 by omega] at hmk
  obtain ⟨Z, hZ⟩ : ∃ Z, Z = List.replicate (n + 4) (0 : UInt8) := ⟨_, rfl⟩
  rw [← hZ] at hmk
  have HZ : Hid (Z.length = n + 4) := Lib.hid (by rw [hZ]; simp)
  clear hZ
  have HS : Hid (Bs w B A n l) := Lib.hid hs
  have HL : Hid (l.length = n) := Lib.hid hs.1
  have HN : Hid ((vals l).length = Nat.min n (n + 4)) := Lib.hid (by rw [vals_length, HL.out]; show n = min n (n + 4); omega)
  have HF : Hid (0 + (vals l).length ≤ (vals Z).length) := Lib.hid (by rw [vals_length, vals_length, HL.out, HZ.out]; omega)
  have HB := Lib.hid (hs.alloc hB (.cells (vals Z).toArray 5))
  clear hs
  go_enter Try.func82, Try.ntmps82
  go_wp2_with (refine wpList_copy_splice (o := ⟨some 12, _, _, _, _, _⟩) rfl (.tmp 10) (.tmp 11) 54 54 rfl 5 Try.underlying54 u8_one (some ⟨w.heap.size, 0, none⟩) A (n + 4) (n + 4) n c rfl rfl w.heap.size 0 (vals Z) 5 (Row.new w _ Z) (vals l) HN.out (HB.out.copies _) HF.out (vals_one l) w.heap.size w ((Below.refl _ _).alloc (Nat.le_refl _) _) (Nat.le_refl _) ?_; intro w2 HG hb2)
  rw [splice_vals] at HG
  have HR : Hid (Row 5 w2 w.heap.size (l ++ Z.drop l.length)) := HG
  have hs2 := HS.out.below (hb2.mono hB)
  clear HG hmk HN HB HF
  refine (sum_any A n c l B w2 hs2 (by omega)).mono ?_
  rintro e w' ⟨rfl, rfl⟩
  clear hs2 HS
  have hsl := Cm.sum_lt l
  obtain ⟨s, hs⟩ : ∃ s, s = Cm.sum l := ⟨_, rfl⟩
  rw [← hs] at hsl ⊢
  have HE := Lib.hid hs
  clear hs
  go_wp2
  go_loopw [15] (fun i wr => ∃ (k : Nat) (L : List UInt8), k ≤ 4 ∧ i = .int .i64 k ∧ Hid (L.length = n + 4) ∧ Hid (L.take (n + k) = l ++ (Cm.four s).take k) ∧ Hid (Row 5 wr w.heap.size L) ∧ Below w.heap.size w wr) (fun i _ => 4 - (intOf i).toNat)
  case atStart => exact ⟨0, _, by omega, rfl, Lib.hid (by rw [List.length_append, List.length_drop, HL.out, HZ.out]; omega), Lib.hid (by rw [Nat.add_zero, ← HL.out]; simp), HR, hb2⟩
  case round =>
    obtain ⟨k, L, hk, rfl, HLL, HT, HRr, hbr⟩ := hrel
    clear HR
    by_cases hlt : k < 4
    · have hkl : n + k < L.length := by rw [HLL.out]; omega
      have hcell := HRr.out.cell hkl
      have hfr := HRr.out.frozen (n + k)
      have HV : Hid ((s : Int) / 2 ^ (8 * k) % 256 = ((Cm.low s (8 * k)).toNat : Int)) := Lib.hid (low_int s (8 * k))
      have HR2 : Hid (Row 5 (wr.setCell ⟨w.heap.size, n + k, none⟩ (.int .u8 ((s : Int) / 2 ^ (8 * k) % 256))) w.heap.size (L.set (n + k) (Cm.low s (8 * k)))) := Lib.hid (by rw [HV.out]; exact HRr.out.put _ _)
      have HT2 : Hid ((L.set (n + k) (Cm.low s (8 * k))).take (n + (k + 1)) = l ++ (Cm.four s).take (k + 1)) := Lib.hid (by
        have h := take_put (x := Cm.low s (8 * k)) hkl HT.out
        rw [Nat.add_assoc] at h
        rw [h, Cm.four_take s hlt, List.append_assoc])
      have HL2 : Hid ((L.set (n + k) (Cm.low s (8 * k))).length = n + 4) := Lib.hid (by rw [List.length_set, HLL.out])
      clear HT HRr HV
      go_wp2
      go_roundw
      case rel => exact ⟨k + 1, _, by omega, by go_num, HL2, HT2, HR2, hbr.setCell (by exact Nat.le_refl _) _⟩
      case measure => simp [intOf]; omega
    · obtain rfl : k = 4 := by omega
      go_wp2
      go_ret
      refine ⟨rfl, ?_, hbr⟩
      have : L = Cm.sealed l := by
        have h := HT.out
        rw [List.take_of_length_le (by rw [HLL.out]; omega)] at h
        rw [h, HE.out]
        rfl
      rw [← this]
      exact HRr.out
end Go.Proofs.YtndbjdnfibpicaaR
