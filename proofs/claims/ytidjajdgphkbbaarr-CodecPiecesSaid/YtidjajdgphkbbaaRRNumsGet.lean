/-
  nums.Get: so many bytes as a number, the highest first.
-/
import Derived.Test.YtidjajdgphkbbaaRRRefNumber
import Derived.Test.YtidjajdgphkbbaaRRSlice
import Derived.Laws.BitsAllLaws
import Derived.LoopTactic
import Derived.IntWalk
import Derived.WalkKit
import Derived.ProofKit
import Derived.Test.YtidjajdgphkbbaaRRNumsFits
namespace Go.Proofs.YtidjajdgphkbbaaRR
open Go.RowKit
set_option maxRecDepth 100000

theorem or_byte (a : Nat) (x : UInt8) : a * 256 ||| x.toNat = a * 256 + x.toNat := by
  have h := Nat.two_pow_add_eq_or_of_lt (i := 8) (show x.toNat < 2 ^ 8 from x.toNat_lt) a
  rw [show (2 : Nat) ^ 8 = 256 from rfl, Nat.mul_comm 256 a] at h
  exact h.symm
set_option maxHeartbeats 1000000 in
theorem numsGet_any (A : Option Addr) (n c at_ k : Nat) (l : List UInt8) (B : Nat) (w : World) (hs : Bs w B A n l) (hnc : n ≤ c) (hn : n ≤ 9223372036854775807) (hk : k ≤ 8) (ha : at_ + k ≤ n) :
    Calls Try.prog 24 #[.slice A n c, .int .i64 at_, .int .i64 k] w fun e w' => e = .returned (.tuple #[.int .u64 (Fm.num ((l.drop at_).take k) : Nat), .bool true]) ∧ w = w' := by
  have hm := hs.mid (j := at_) (k := at_ + k) (by omega) ha hnc
  rw [Nat.add_sub_cancel_left] at hm
  have HM := Lib.hid hm
  have hw1 : IntKind.i64.wrap ((n : Int) - (k : Int)) = ((n - k : Nat) : Int) := by rw [IntWalk.i64_in _ (by omega)]; omega
  have hw2 : IntKind.i64.wrap ((at_ : Int) + (k : Int)) = (at_ : Int) + (k : Int) := IntWalk.i64_in _ (by omega)
  have hcut : ∀ W, (Instr.slice 22 (.slice A n c) (some (.int .i64 (at_ : Int))) (some (.int .i64 ((at_ : Int) + (k : Int)))) none).run Try.prog W = .ok (.slice (behindN A c at_) k (c - at_)) W := fun W => by
    have h := cut_mid A n c at_ (at_ + k) (by omega) (by omega) W
    rw [Int.natCast_add, Nat.add_sub_cancel_left] at h
    exact h
  have f1 := nfits_any (k : Int) 0 8 w
  rw [decide_eq_true ⟨by omega, by omega⟩] at f1
  have f2 := nfits_any (at_ : Int) 0 ((n - k : Nat) : Int) w
  rw [decide_eq_true ⟨by omega, by omega⟩] at f2
  generalize behindN A c at_ = A2 at *
  generalize (l.drop at_).take k = m at *
  clear hs hm
  go_enter Try.func24, Try.ntmps24
  go_wp2_with (go_at_call 23; first | ((with_reducible refine f1.mono ?_); rintro e w' ⟨rfl, rfl⟩) | ((with_reducible refine f2.mono ?_); rintro e w' ⟨rfl, rfl⟩))
  go_loopw [8, 10, 30] (fun t _ i wr => ∃ j a : Nat, j ≤ k ∧ i = .int .i64 j ∧ t = .int .u64 a ∧ Hid (a = Fm.num (m.take j)) ∧ wr = w) (fun _ _ i _ => k - (intOf i).toNat)
  case atStart => exact ⟨0, 0, Nat.zero_le _, rfl, rfl, Lib.hid rfl, rfl⟩
  case round =>
    obtain ⟨j, a, hj, rfl, rfl, HA, rfl⟩ := hrel
    by_cases hlt : j < k
    · obtain ⟨b, off, rfl, hb, hc⟩ := HM.out.2 (by omega)
      have hjl : j < m.length := by rw [HM.out.1]; exact hlt
      have hcell := hc j hjl
      have HNX : Hid (Fm.num (m.take (j + 1)) = Fm.num (m.take j) * 256 + m[j].toNat) := Lib.hid (by rw [List.take_succ_eq_append_getElem hjl]; exact Fm.numFrom_snoc _ _ _)
      have hal : a < 2 ^ 56 := by
        have h1 := Fm.num_lt (m.take j)
        rw [← HA.out] at h1
        refine Nat.lt_of_lt_of_le h1 (Nat.pow_le_pow_right (by omega) ?_)
        rw [List.length_take]
        omega
      generalize m[j] = x at *
      have hx := x.toNat_lt
      have w1 : IntKind.u64.wrap (x.toNat : Int) = (x.toNat : Int) := IntWalk.u64_in _ (by omega)
      have w2 : IntKind.u64.wrap ((a : Int) * 256) = ((a * 256 : Nat) : Int) := by rw [IntWalk.u64_in _ (by omega)]; simp
      have w3 : bits .or .u64 ((a : Int) * 256) (x.toNat : Int) = ((a * 256 + x.toNat : Nat) : Int) := by
        rw [show (a : Int) * 256 = ((a * 256 : Nat) : Int) by simp, u64_or_nat _ _ (by omega) (by omega), or_byte]
      clear hc hjl
      go_wp2
      go_roundw
      case rel => exact ⟨j + 1, a * 256 + x.toNat, by omega, by go_num, rfl, Lib.hid (by rw [HNX.out, HA.out]), by first | rfl | trivial⟩
      case measure => simp [intOf]; omega
    · obtain rfl : j = k := by omega
      have HE : Hid (a = Fm.num m) := Lib.hid (by rw [HA.out, List.take_of_length_le (by rw [HM.out.1]; exact Nat.le_refl _)])
      go_wp2
      go_ret2
      exact ⟨by rw [HE.out]; rfl, rfl⟩
end Go.Proofs.YtidjajdgphkbbaaRR
