/-
  The document's Lay: so many bytes of a number, the highest first.
-/
import Derived.Test.YtidjajdgphkbbaaRRRefNumber
import Derived.Test.YtidjajdgphkbbaaRRTold
import Derived.Test.YtidjajdgphkbbaaRRMakeBytes
import Derived.Test.YtidjajdgphkbbaaRRBytesAppend
namespace Go.Proofs.YtidjajdgphkbbaaRR
open Go.ChangeShapes Go.WideShapes Go.ChangeAt Go.RowKit
set_option maxRecDepth 100000

/-- one byte, just made -/
theorem byte_block (w : World) (x : UInt8) (T : TypeId) : Bs (w.alloc (.cells #[.int .u8 (x.toNat : Int)] T)) (w.heap.size + 1) (some ⟨w.heap.size, 0, none⟩) 1 [x] := by
  refine ⟨rfl, fun _ => ⟨w.heap.size, 0, rfl, by omega, fun j hj => ?_⟩⟩
  obtain rfl : j = 0 := by simpa using hj
  rw [World.cell?_alloc_new]
  rfl
theorem be_front (N : Nat) {count r : Nat} (h : r < count) : (Fm.be N count).take (count - (r + 1)) ++ [UInt8.ofNat (N / 2 ^ (8 * r))] = (Fm.be N count).take (count - r) := by
  induction count with
  | zero => omega
  | succ k ih =>
    by_cases hr : r = k
    · subst hr
      rw [Nat.sub_self, List.take_zero, show r + 1 - r = 1 by omega]
      rfl
    · have h1 : r < k := by omega
      have e1 : k + 1 - (r + 1) = (k - (r + 1)) + 1 := by omega
      have e2 : k + 1 - r = (k - r) + 1 := by omega
      rw [e1, e2]
      unfold Fm.be
      rw [List.take_succ_cons, List.take_succ_cons, List.cons_append, ih h1]
set_option maxHeartbeats 2000000 in
theorem lay_any (N count : Nat) (w : World) (hN : N < 18446744073709551616) (hc : count ≤ 8) :
    Calls Try.prog 21 #[.int .u64 N, .int .i64 count] w (Told w (Fm.be N count)) := by
  obtain ⟨i0, hi, hz, hsz, hby⟩ := info_parts u8_info
  have HI := Lib.hid hi
  have HZ := Lib.hid hz
  have HSZ := Lib.hid hsz
  have HBY := Lib.hid hby
  have HN := Lib.hid hN
  clear hi hz hsz hby hN
  go_enter Try.func21, Try.ntmps21
  go_wp2
  go_loopw [5, 6] (fun v i wr => ∃ j m : Nat, j ≤ 8 ∧ i = .int .i64 j ∧ Hid (m = count - (8 - j)) ∧ Hid (wr.ownsRow w.heap.size 5 1 v m (vals ((Fm.be N count).take m))) ∧ Hid (Below w.heap.size w wr)) (fun _ i _ => 8 - (intOf i).toNat)
  case atStart => exact ⟨0, 0, by omega, rfl, Lib.hid (by omega), Lib.hid (World.ownsRow_nil _ _ _ _), Lib.hid (Below.refl _ _)⟩
  case round =>
    obtain ⟨j, m, hj, rfl, HM, HR, HB⟩ := hrel
    by_cases hlt : j < 8
    · have hd : decide ((j : Int) < 8) = true := decide_eq_true (by omega)
      by_cases hge : 8 - count ≤ j
      · have hd2 : decide ((8 : Int) - count ≤ j) = true := decide_eq_true (by omega)
        obtain ⟨x, hx⟩ : ∃ x, x = Cm.low N (56 - 8 * j) := ⟨_, rfl⟩
        have HX : Hid ((Fm.be N count).take m ++ [x] = (Fm.be N count).take (m + 1) ∧ m + 1 = count - (8 - (j + 1))) := Lib.hid (by
          have h1 := be_front N (count := count) (r := 7 - j) (by omega)
          have e1 : count - (7 - j + 1) = m := by have := HM.out; omega
          have e2 : count - (7 - j) = m + 1 := by have := HM.out; omega
          rw [e1, e2, show 8 * (7 - j) = 56 - 8 * j by omega] at h1
          exact ⟨by rw [hx]; exact h1, by have := HM.out; omega⟩)
        have hlow : (N : Int) / 2 ^ (56 - 8 * j) % 256 = (x.toNat : Int) := by rw [hx]; exact low_int N (56 - 8 * j)
        have hm8 : m ≤ 8 := by have := HM.out; omega
        clear hge hx
        go_wp2_with (at_builtin; refine wpList_append_bytes (o := ⟨some 23, _, _, _, _, _⟩) rfl (.tmp 15) (.tmp 22) 22 rfl w.heap.size 5 i0 Try.underlying22 HI.out HZ.out HSZ.out HBY.out _ m ((Fm.be N count).take m) rfl (HR.out.alloc _) (wr.heap.size + 1) (some ⟨wr.heap.size, 0, none⟩) 1 1 [x] rfl (byte_block wr x _) (by omega) (by have := HB.out.size; simp; omega) ?_; intro v2 w2 HO2 HG2)
        go_roundw
        case rel =>
          have hb2 := HB.out.alloc HB.out.size (.cells #[.int .u8 (x.toNat : Int)] 5)
          have ho := HO2.out
          rw [HX.out.1] at ho
          exact ⟨j + 1, m + 1, by omega, by go_num, Lib.hid HX.out.2, Lib.hid ho, Lib.hid (hb2.grown HG2.out hb2.size (fun q hq => (HR.out.lt q hq).1))⟩
        case measure => simp [intOf]; omega
      · have hd2 : decide ((8 : Int) - count ≤ j) = false := decide_eq_false (by omega)
        have HX : Hid (m = count - (8 - (j + 1)) ) := Lib.hid (by have := HM.out; omega)
        clear hge
        go_wp2
        go_roundw
        case rel => exact ⟨j + 1, m, by omega, by go_num, HX, HR, HB⟩
        case measure => simp [intOf]; omega
    · obtain rfl : j = 8 := by omega
      have hd : decide (((8 : Nat) : Int) < 8) = false := by decide
      have HE : Hid (m = count) := Lib.hid (by have := HM.out; omega)
      obtain ⟨A, cap, rfl, hb, hcap⟩ := own_bs HR.out
      have HBS := Lib.hid hb
      clear hb
      go_wp2
      go_ret
      have hl := Fm.be_length N count
      have hbs := HBS.out
      rw [HE.out, List.take_of_length_le (by rw [hl]; exact Nat.le_refl _)] at hbs
      refine ⟨A, cap, by rw [hl, HE.out]; rfl, by rw [hl]; exact hbs, by rw [hl, ← HE.out]; exact hcap, HB.out⟩
end Go.Proofs.YtidjajdgphkbbaaRR
