/-
  Contract of one byte's step: crc.Next.
-/
import Derived.Test.YtkbikmejpdcgnaaRRRChecked
import Derived.Test.YtkbikmejpdcgnaaRRRCrcMath
import Derived.WalkKit
import Derived.ProofKit
import Derived.OpenShut
import Derived.Outline
import Derived.Lib.Hide
import Derived.LoopTactic
import Derived.Laws.BitsAllLaws
import Derived.IntWalk
namespace Go.Proofs.YtkbikmejpdcgnaaRRR
open Go.ChangeShapes Go.WideShapes Go.ChangeAt Go.RowKit

theorem u32_low (c : Nat) (h : c < 2 ^ 32) (hb : c % 2 = 1) : bits .and .u32 (c : Int) 1 = 1 := by
  have := u32_and_nat c 1 (by omega) (by omega)
  rw [Nat.and_one_is_mod, hb] at this
  exact this
theorem u32_low0 (c : Nat) (h : c < 2 ^ 32) (hb : c % 2 = 0) : bits .and .u32 (c : Int) 1 = 0 := by
  have := u32_and_nat c 1 (by omega) (by omega)
  rw [Nat.and_one_is_mod, hb] at this
  exact this
theorem u32_poly (c : Nat) (h : c < 2 ^ 32) : bits .xor .u32 ((c : Int) / 2) 3988292384 = ((c / 2 ^^^ Cm.poly : Nat) : Int) := by
  have := u32_xor_nat (c / 2) Cm.poly (by omega) Cm.poly_lt
  rw [← this]
  rfl

theorem u32_byte (c : Nat) (b : UInt8) (h : c < 2 ^ 32) : bits .xor .u32 (c : Int) ((b.toNat : Int) % 4294967296) = ((c ^^^ b.toNat : Nat) : Int) := by
  have hb := b.toNat_lt
  have e : (b.toNat : Int) % 4294967296 = (b.toNat : Int) := by omega
  rw [e]
  exact u32_xor_nat c b.toNat (by omega) (by omega)
theorem ret_u32 {a b : Nat} (h : a = b) : Ending.returned (.int .u32 (a : Int)) = .returned (.int .u32 (b : Int)) := by rw [h]

theorem next_any (c : Nat) (b : UInt8) (w : World) (hc : c < 2 ^ 32) :
    Calls Try.prog 12 #[.int .u32 (c : Int), .int .u8 (b.toNat : Int)] w fun e w' => e = .returned (.int .u32 (Cm.next c b : Nat)) ∧ w = w' := by
  have hx := u32_byte c b hc
  have hd : c ^^^ b.toNat < 2 ^ 32 := Nat.xor_lt_two_pow hc (Cm.byte_lt b)
  obtain ⟨d0, hd0⟩ : ∃ d0, d0 = c ^^^ b.toNat := ⟨_, rfl⟩
  rw [← hd0] at hx hd
  have HD : Hid (Cm.steps 8 d0 = Cm.next c b) := Lib.hid (by rw [hd0]; rfl)
  clear hd0
  have hd' : d0 < 4294967296 := hd
  go_enter Try.func12, Try.ntmps12
  go_wp2
  clear hx
  go_loop [0, 10] (fun t i => ∃ (k d : Nat), k ≤ 8 ∧ i = .int .i64 k ∧ t = .int .u32 d ∧ d < 4294967296 ∧ Hid (Cm.steps (8 - k) d = Cm.next c b)) (fun _ i => 8 - (intOf i).toNat)
  case atStart => exact ⟨0, d0, by omega, rfl, rfl, hd', HD⟩
  case round =>
    obtain ⟨k, d, hk, rfl, rfl, hlt, H⟩ := hrel
    clear HD hd hd' hc
    by_cases h8 : k < 8
    · have H2 : Hid (Cm.steps (8 - (k + 1)) (Cm.step d) = Cm.next c b) := by
        refine Lib.hid ?_
        rw [← H.out, show 8 - k = (8 - (k + 1)) + 1 by omega]
        rfl
      clear H
      by_cases hodd : d % 2 = 1
      · have b1 := u32_low d hlt hodd
        have b2 := u32_poly d hlt
        have hst : Hid (Cm.step d = d / 2 ^^^ Cm.poly) := Lib.hid (Cm.step_odd hodd)
        have hl : Cm.step d < 4294967296 := Cm.step_lt hlt
        clear hodd
        go_wp2
        go_round
        case rel => exact ⟨k + 1, Cm.step d, by omega, by go_num, by rw [hst.out], hl, H2⟩
        case measure => simp [intOf]; omega
      · have b1 := u32_low0 d hlt (by omega)
        have hst : Hid (Cm.step d = d / 2) := Lib.hid (Cm.step_even (by omega))
        have hl : Cm.step d < 4294967296 := Cm.step_lt hlt
        clear hodd
        go_wp2
        go_round
        case rel => exact ⟨k + 1, Cm.step d, by omega, by go_num, by rw [hst.out]; rfl, hl, H2⟩
        case measure => simp [intOf]; omega
    · obtain rfl : k = 8 := by omega
      go_wp2
      go_ret
      exact ⟨ret_u32 H.out, rfl⟩
end Go.Proofs.YtkbikmejpdcgnaaRRR
