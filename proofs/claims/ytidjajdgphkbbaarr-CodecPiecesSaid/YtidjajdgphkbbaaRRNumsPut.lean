/-
  nums.Put: bytes, and so many bytes of a number behind them, the highest first, in memory of its own.
-/
import Derived.Test.YtidjajdgphkbbaaRRFrameMath
import Derived.Test.YtidjajdgphkbbaaRRMakeBytes
import Derived.Lib.Hide
import Derived.LoopTactic
import Derived.IntWalk
import Derived.Outline
namespace Go.Proofs.YtidjajdgphkbbaaRR
open Go.ChangeShapes Go.WideShapes Go.ChangeAt Go.RowKit
set_option maxRecDepth 100000

theorem be_put {l : List UInt8} {N k r : Nat} (h : r < k) : (l ++ (List.replicate (k - r) 0 ++ Fm.be N r)).set (l.length + k - r - 1) (UInt8.ofNat (N / 2 ^ (8 * r))) = l ++ (List.replicate (k - (r + 1)) 0 ++ Fm.be N (r + 1)) := by
  rw [List.set_append_right _ _ (by omega)]
  congr 1
  have e1 : k - r = (k - (r + 1)) + 1 := by omega
  rw [e1, List.replicate_succ', List.append_assoc, List.set_append_right _ _ (by simp; omega)]
  have e2 : l.length + k - r - 1 - l.length - (List.replicate (k - (r + 1)) (0 : UInt8)).length = 0 := by rw [List.length_replicate]; omega
  rw [e2]
  rfl
set_option maxHeartbeats 1000000 in
theorem numsPut_any (A : Option Addr) (n c N k : Nat) (l : List UInt8) (B : Nat) (w : World) (hs : Bs w B A n l) (hB : B ≤ w.heap.size) (hn : n ≤ 1000000000) (hk : k ≤ 8) (hN : N < 18446744073709551616) :
    Calls Try.prog 14 #[.slice A n c, .int .u64 N, .int .i64 k] w fun e w' => e = .returned (.slice (some ⟨w.heap.size, 0, none⟩) (n + k) (n + k)) ∧ Row 5 w' w.heap.size (l ++ Fm.be N k) ∧ Below w.heap.size w w' := by
  have hmk := make_bytes (n + k) (by omega)
  rw [Int.natCast_add] at hmk
  obtain ⟨Z, hZ⟩ : ∃ Z, Z = List.replicate (n + k) (0 : UInt8) := ⟨_, rfl⟩
  rw [← hZ] at hmk
  have HZ : Hid (Z = List.replicate (n + k) 0) := Lib.hid hZ
  clear hZ
  have HS : Hid (Bs w B A n l) := Lib.hid hs
  have HL : Hid (l.length = n) := Lib.hid hs.1
  have HN : Hid ((vals l).length = Nat.min n (n + k)) := Lib.hid (by rw [vals_length, HL.out]; show n = min n (n + k); omega)
  have HF : Hid (0 + (vals l).length ≤ (vals Z).length) := Lib.hid (by rw [vals_length, vals_length, HL.out, HZ.out, List.length_replicate]; omega)
  have HB := Lib.hid (hs.alloc hB (.cells (vals Z).toArray 5))
  have m1 : (if (k : Int) < 0 then (0 : Int) else (k : Int)) = (k : Int) := if_neg (by omega)
  have m2 : (if (8 : Int) < (k : Int) then (8 : Int) else (k : Int)) = (k : Int) := if_neg (by omega)
  have hw1 : IntKind.i64.wrap ((n : Int) + (k : Int)) = (n : Int) + (k : Int) := IntWalk.i64_in _ (by omega)
  have hw2 : IntKind.i64.wrap ((n : Int) + (k : Int) - 1) = (n : Int) + (k : Int) - 1 := IntWalk.i64_in _ (by omega)
  have HNN := Lib.hid hN
  clear hs hN
  go_enter Try.func14, Try.ntmps14
  go_wp2_with (refine wpList_copy_splice (o := ⟨some 19, _, _, _, _, _⟩) rfl (.tmp 17) (.tmp 18) 22 22 rfl 5 Try.underlying22 u8_one (some ⟨w.heap.size, 0, none⟩) A (n + k) (n + k) n c rfl rfl w.heap.size 0 (vals Z) 5 (Row.new w _ Z) (vals l) HN.out (HB.out.copies _) HF.out (vals_one l) w.heap.size w ((Below.refl _ _).alloc (Nat.le_refl _) _) (Nat.le_refl _) ?_; intro w2 HG hb2)
  rw [splice_vals] at HG
  have HR : Hid (Row 5 w2 w.heap.size (l ++ (List.replicate (k - 0) 0 ++ Fm.be N 0))) := Lib.hid (by
    have h : Row 5 w2 w.heap.size (l ++ Z.drop l.length) := HG
    rw [HZ.out, List.drop_replicate, HL.out, Nat.add_sub_cancel_left] at h
    simpa [Fm.be] using h)
  clear HG hmk HN HB HF
  go_loopw [1, 8] (fun x i wr => ∃ (r : Nat), r ≤ k ∧ x = .int .u64 ((N / 2 ^ (8 * r) : Nat) : Int) ∧ i = .int .i64 ((n : Int) + (k : Int) - 1 - (r : Int)) ∧ Hid (Row 5 wr w.heap.size (l ++ (List.replicate (k - r) 0 ++ Fm.be N r))) ∧ Below w.heap.size w wr) (fun _ i _ => (intOf i + 1).toNat)
  case atStart => exact ⟨0, by omega, by simp, by simp, HR, hb2⟩
  case round =>
    obtain ⟨r, hr, rfl, rfl, HRr, hbr⟩ := hrel
    clear HR
    by_cases hlt : r < k
    · obtain ⟨i, hi⟩ : ∃ i, i = n + k - 1 - r := ⟨_, rfl⟩
      have hni : n ≤ i := by omega
      have hik : i < n + k := by omega
      have e1 : (n : Int) + (k : Int) - 1 - (r : Int) = (i : Int) := by omega
      rw [e1]
      have hlen : (l ++ (List.replicate (k - r) 0 ++ Fm.be N r)).length = n + k := by simp [Fm.be_length, HL.out]; omega
      obtain ⟨y, hcell⟩ : ∃ y : Int, wr.cell? ⟨w.heap.size, i, none⟩ = some (.int .u8 y) := ⟨_, HRr.out.cell (j := i) (by rw [hlen]; exact hik)⟩
      have hfr := HRr.out.frozen i
      obtain ⟨x, hx⟩ : ∃ x, x = N / 2 ^ (8 * r) := ⟨_, rfl⟩
      rw [← hx]
      have hx2 : x < 18446744073709551616 := by rw [hx]; exact Nat.lt_of_le_of_lt (Nat.div_le_self _ _) HNN.out
      have HX : Hid (N / 2 ^ (8 * (r + 1)) = x / 256) := Lib.hid (by rw [hx, Nat.div_div_eq_div_mul, Nat.mul_add, Nat.pow_add])
      have HR2 : Hid (Row 5 (wr.setCell ⟨w.heap.size, i, none⟩ (.int .u8 ((x : Int) % 256))) w.heap.size (l ++ (List.replicate (k - (r + 1)) 0 ++ Fm.be N (r + 1)))) := Lib.hid (by
        rw [← be_put hlt, ← hx, show l.length + k - r - 1 = i by rw [HL.out]; omega]
        have h := HRr.out.put i (UInt8.ofNat x)
        rw [show (((UInt8.ofNat x).toNat : Nat) : Int) = (x : Int) % 256 by rw [UInt8.toNat_ofNat']; omega] at h
        exact h)
      have HI : Hid ((i : Int) - 1 = (n : Int) + (k : Int) - 1 - ((r + 1 : Nat) : Int)) := Lib.hid (by omega)
      have hw3 : IntKind.i64.wrap ((i : Int) - 1) = (i : Int) - 1 := IntWalk.i64_in _ (by omega)
      clear HRr hx hi e1 hlen
      go_wp2
      go_roundw
      case rel => exact ⟨r + 1, by omega, by rw [HX.out]; rfl, by rw [HI.out], HR2, hbr.setCell (by exact Nat.le_refl _) _⟩
      case measure => simp [intOf]
    · obtain rfl : r = k := by omega
      go_wp2
      go_ret
      refine ⟨rfl, ?_, hbr⟩
      have h := HRr.out
      rw [Nat.sub_self] at h
      exact h
end Go.Proofs.YtidjajdgphkbbaaRR
