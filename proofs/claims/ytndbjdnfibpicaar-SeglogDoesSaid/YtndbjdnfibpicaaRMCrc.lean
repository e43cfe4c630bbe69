/-
  Contract of one byte's step: crc.Next.
  Contracts of crc.Many and crc.Sum.
  Contract of one byte's step: the document's own.
  Contract of the document's own Sum.
-/
import Derived.Test.YtndbjdnfibpicaaRChecked
import Derived.Test.YtndbjdnfibpicaaRMFrame
import Derived.WalkKit
import Derived.ProofKit
import Derived.OpenShut
import Derived.Outline
import Derived.Lib.Hide
import Derived.LoopTactic
import Derived.Laws.BitsAllLaws
import Derived.IntWalk
import Derived.Test.YtndbjdnfibpicaaRMBytes
import Derived.Deep.LoopGhost
section
namespace Go.Proofs.YtndbjdnfibpicaaR
open Go.ChangeShapes Go.WideShapes Go.ChangeAt Go.RowKit

theorem u32_low (c : Nat) (h : c < 2 ^ 32) (hb : c % 2 = 1) : bits .and .u32 (c : Int) 1 = 1 := by
  have := u32_and_nat c 1 (by omega) (by omega)
  rw [Nat.and_one_is_mod, hb] at this
  exact this
theorem u32_low0 (c : Nat) (h : c < 2 ^ 32) (hb : c % 2 = 0) : bits .and .u32 (c : Int) 1 = 0 := by
  have := u32_and_nat c 1 (by omega) (by omega)
  rw [Nat.and_one_is_mod, hb] at this
  exact this
theorem u32_poly (c : Nat) (h : c < 2 ^ 32) : bits .xor .u32 ((c : Int) / 2) 3988292384 = ((c / 2 ^^^ Cm.poly : Nat) : Int) := by
  have := u32_xor_nat (c / 2) Cm.poly (by omega) Cm.poly_lt
  rw [← this]
  rfl

theorem u32_byte (c : Nat) (b : UInt8) (h : c < 2 ^ 32) : bits .xor .u32 (c : Int) ((b.toNat : Int) % 4294967296) = ((c ^^^ b.toNat : Nat) : Int) := by
  have hb := b.toNat_lt
  have e : (b.toNat : Int) % 4294967296 = (b.toNat : Int) := by omega
  rw [e]
  exact u32_xor_nat c b.toNat (by omega) (by omega)
theorem ret_u32 {a b : Nat} (h : a = b) : Ending.returned (.int .u32 (a : Int)) = .returned (.int .u32 (b : Int)) := by rw [h]

theorem next_any (c : Nat) (b : UInt8) (w : World) (hc : c < 2 ^ 32) :
    Calls Try.prog 87 #[.int .u32 (c : Int), .int .u8 (b.toNat : Int)] w fun e w' => e = .returned (.int .u32 (Cm.next c b : Nat)) ∧ w = w' := by
  have hx := u32_byte c b hc
  have hd : c ^^^ b.toNat < 2 ^ 32 := Nat.xor_lt_two_pow hc (Cm.byte_lt b)
  obtain ⟨d0, hd0⟩ : ∃ d0, d0 = c ^^^ b.toNat := ⟨_, rfl⟩
  rw [← hd0] at hx hd
  have HD : Hid (Cm.steps 8 d0 = Cm.next c b) := Lib.hid (by rw [hd0]; rfl)
  clear hd0
  have hd' : d0 < 4294967296 := hd
  go_enter Try.func87, Try.ntmps87
  go_wp2
  clear hx
  go_loop [0, 10] (fun t i => ∃ (k d : Nat), k ≤ 8 ∧ i = .int .i64 k ∧ t = .int .u32 d ∧ d < 4294967296 ∧ Hid (Cm.steps (8 - k) d = Cm.next c b)) (fun _ i => 8 - (intOf i).toNat)
  case atStart => exact ⟨0, d0, by omega, rfl, rfl, hd', HD⟩
  case round =>
    obtain ⟨k, d, hk, rfl, rfl, hlt, H⟩ := hrel
    clear HD hd hd' hc
    by_cases h8 : k < 8
    · have H2 : Hid (Cm.steps (8 - (k + 1)) (Cm.step d) = Cm.next c b) := by
        refine Lib.hid ?_
        rw [← H.out, show 8 - k = (8 - (k + 1)) + 1 by omega]
        rfl
      clear H
      by_cases hodd : d % 2 = 1
      · have b1 := u32_low d hlt hodd
        have b2 := u32_poly d hlt
        have hst : Hid (Cm.step d = d / 2 ^^^ Cm.poly) := Lib.hid (Cm.step_odd hodd)
        have hl : Cm.step d < 4294967296 := Cm.step_lt hlt
        clear hodd
        go_wp2
        go_round
        case rel => exact ⟨k + 1, Cm.step d, by omega, by go_num, by rw [hst.out], hl, H2⟩
        case measure => simp [intOf]; omega
      · have b1 := u32_low0 d hlt (by omega)
        have hst : Hid (Cm.step d = d / 2) := Lib.hid (Cm.step_even (by omega))
        have hl : Cm.step d < 4294967296 := Cm.step_lt hlt
        clear hodd
        go_wp2
        go_round
        case rel => exact ⟨k + 1, Cm.step d, by omega, by go_num, by rw [hst.out]; rfl, hl, H2⟩
        case measure => simp [intOf]; omega
    · obtain rfl : k = 8 := by omega
      go_wp2
      go_ret
      exact ⟨ret_u32 H.out, rfl⟩
end Go.Proofs.YtndbjdnfibpicaaR
end
section
namespace Go.Proofs.YtndbjdnfibpicaaR
open Go.ChangeShapes Go.WideShapes Go.ChangeAt Go.RowKit

set_option maxHeartbeats 400000 in
theorem many_any (r : Nat) (A : Option Addr) (n c : Nat) (l : List UInt8) (B : Nat) (w : World) (hs : Bs w B A n l) (hr : r < 2 ^ 32) (hn : n ≤ 9223372036854775807) :
    Calls Try.prog 86 #[.int .u32 (r : Int), .slice A n c] w fun e w' => e = .returned (.int .u32 (Cm.many r l : Nat)) ∧ w = w' := by
  have HL : Hid (l.length = n) := Lib.hid hs.1
  have HC := Lib.hid hs.2
  clear hs
  go_enter Try.func86, Try.ntmps86
  go_wp2
  go_loop [0, 9] (fun t i => ∃ (k d : Nat), k ≤ n ∧ i = .int .i64 k ∧ t = .int .u32 d ∧ d < 4294967296 ∧ Hid (Cm.many d (l.drop k) = Cm.many r l)) (fun _ i => n - (intOf i).toNat)
  case atStart => exact ⟨0, r, by omega, rfl, rfl, hr, Lib.hid rfl⟩
  case round =>
    obtain ⟨k, d, hk, rfl, rfl, hd, H⟩ := hrel
    clear hr
    by_cases hlt : k < n
    · obtain ⟨b, off, rfl, hB, hc⟩ := HC.out (by omega)
      have hkl : k < l.length := by rw [HL.out]; exact hlt
      have hcell := hc k hkl
      obtain ⟨x, hx⟩ : ∃ x, x = l[k] := ⟨_, rfl⟩
      rw [← hx] at hcell
      have H2 : Hid (Cm.many (Cm.next d x) (l.drop (k + 1)) = Cm.many r l) := by
        refine Lib.hid ?_
        rw [← H.out, List.drop_eq_getElem_cons hkl, hx]
        rfl
      have hl := Cm.next_lt x hd
      clear H hx hc HC HL
      go_wp2_with (go_at_call 87; refine (next_any d x _ hd).mono ?_; rintro e w' ⟨rfl, rfl⟩)
      go_round
      case rel => exact ⟨k + 1, _, by omega, by go_num, rfl, hl, H2⟩
      case measure => simp [intOf]; omega
    · have HE : Hid (d = Cm.many r l) := Lib.hid (by rw [← H.out, List.drop_of_length_le (by rw [HL.out]; omega)]; rfl)
      clear H
      go_wp2
      go_ret
      exact ⟨ret_u32 HE.out, rfl⟩

theorem u32_not (m : Nat) (h : m < 2 ^ 32) : bits .xor .u32 IntKind.u32.max (m : Int) = ((m ^^^ Cm.ones : Nat) : Int) := by
  rw [Nat.xor_comm]
  exact u32_xor_nat Cm.ones m Cm.ones_lt h
theorem u32_not' (m : Nat) (h : m < 2 ^ 32) : bits .xor .u32 (m : Int) 4294967295 = ((m ^^^ Cm.ones : Nat) : Int) := u32_xor_nat m Cm.ones h Cm.ones_lt

theorem sum_any (A : Option Addr) (n c : Nat) (l : List UInt8) (B : Nat) (w : World) (hs : Bs w B A n l) (hn : n ≤ 9223372036854775807) :
    Calls Try.prog 85 #[.slice A n c] w fun e w' => e = .returned (.int .u32 (Cm.sum l : Nat)) ∧ w = w' := by
  have cm := many_any Cm.ones A n c l B w hs Cm.ones_lt hn
  have hm := u32_not _ (Cm.many_lt l Cm.ones_lt)
  have HS : Hid (Cm.many Cm.ones l ^^^ Cm.ones = Cm.sum l) := Lib.hid rfl
  clear hs
  go_enter Try.func85, Try.ntmps85
  go_wp2_with (go_at_call 86; refine cm.mono ?_; rintro e w' ⟨rfl, rfl⟩)
  go_ret
  exact ⟨ret_u32 HS.out, rfl⟩
end Go.Proofs.YtndbjdnfibpicaaR
end
section
namespace Go.Proofs.YtndbjdnfibpicaaR
open Go.ChangeShapes Go.WideShapes Go.ChangeAt Go.RowKit

theorem u32_pair (r k : Nat) (b : UInt8) (h : r < 4294967296) :
    bits .xor .u32 (bits .and .u32 (r : Int) 1) (bits .and .u32 ((b.toNat : Int) / 2 ^ k % 4294967296) 1) = (((r % 2 + b.toNat / 2 ^ k % 2) % 2 : Nat) : Int) := by
  have hb := b.toNat_lt
  have hq : b.toNat / 2 ^ k < 4294967296 := Nat.lt_of_le_of_lt (Nat.div_le_self _ _) (by omega)
  have e1 : bits .and .u32 (r : Int) 1 = ((r % 2 : Nat) : Int) := by
    have := u32_and_nat r 1 (by omega) (by omega)
    rwa [Nat.and_one_is_mod] at this
  have e2 : (b.toNat : Int) / 2 ^ k % 4294967296 = ((b.toNat / 2 ^ k : Nat) : Int) := by
    have : (b.toNat : Int) / 2 ^ k = ((b.toNat / 2 ^ k : Nat) : Int) := by norm_cast
    rw [this]
    clear this e1
    generalize b.toNat / 2 ^ k = q at hq ⊢
    omega
  have e3 : bits .and .u32 ((b.toNat / 2 ^ k : Nat) : Int) 1 = ((b.toNat / 2 ^ k % 2 : Nat) : Int) := by
    have := u32_and_nat (b.toNat / 2 ^ k) 1 hq (by omega)
    rwa [Nat.and_one_is_mod] at this
  rw [e1, e2, e3, u32_xor_nat _ _ (by omega) (by omega)]
  congr 1
  rcases Nat.mod_two_eq_zero_or_one r with h1 | h1 <;> rcases Nat.mod_two_eq_zero_or_one (b.toNat / 2 ^ k) with h2 | h2 <;> rw [h1, h2] <;> rfl

theorem refNext_any (c : Nat) (b : UInt8) (w : World) (hc : c < 2 ^ 32) :
    Calls Try.prog 84 #[.int .u32 (c : Int), .int .u8 (b.toNat : Int)] w fun e w' => e = .returned (.int .u32 (Cm.next c b : Nat)) ∧ w = w' := by
  have hc' : c < 4294967296 := hc
  have hb0 := b.toNat_lt
  have H0 : Hid (Cm.steps 8 (c ^^^ b.toNat / 2 ^ 0) = Cm.next c b) := Lib.hid (by simp [Cm.next])
  go_enter Try.func84, Try.ntmps84
  go_wp2
  go_loop [0, 5] (fun t i => ∃ (k r : Nat), k ≤ 8 ∧ i = .int .i64 k ∧ t = .int .u32 r ∧ r < 4294967296 ∧ Hid (Cm.steps (8 - k) (r ^^^ b.toNat / 2 ^ k) = Cm.next c b)) (fun _ i => 8 - (intOf i).toNat)
  case atStart => exact ⟨0, c, by omega, rfl, rfl, hc', H0⟩
  case round =>
    obtain ⟨k, r, hk, rfl, rfl, hlt, H⟩ := hrel
    clear H0 hc' hc
    by_cases h8 : k < 8
    · have H2 : Hid (Cm.steps (8 - (k + 1)) (Cm.step (r ^^^ b.toNat / 2 ^ k)) = Cm.next c b) := by
        refine Lib.hid ?_
        rw [← H.out, show 8 - k = (8 - (k + 1)) + 1 by omega]
        rfl
      clear H
      have hx := u32_pair r k b hlt
      by_cases hodd : (r % 2 + b.toNat / 2 ^ k % 2) % 2 = 1
      · rw [hodd] at hx
        have b2 := u32_poly r hlt
        have hl : r / 2 ^^^ Cm.poly < 4294967296 := Nat.xor_lt_two_pow (n := 32) (by omega) Cm.poly_lt
        have H3 : Hid (Cm.steps (8 - (k + 1)) ((r / 2 ^^^ Cm.poly) ^^^ b.toNat / 2 ^ (k + 1)) = Cm.next c b) := by
          refine Lib.hid ?_
          rw [← H2.out, Cm.pair_odd hodd, Cm.byte_next]
        clear H2 hodd
        go_wp2
        go_round
        case rel => exact ⟨k + 1, _, by omega, by go_num, rfl, hl, H3⟩
        case measure => simp [intOf]; omega
      · have hev : (r % 2 + b.toNat / 2 ^ k % 2) % 2 = 0 := by omega
        rw [hev] at hx
        have H3 : Hid (Cm.steps (8 - (k + 1)) (r / 2 ^^^ b.toNat / 2 ^ (k + 1)) = Cm.next c b) := by
          refine Lib.hid ?_
          rw [← H2.out, Cm.pair_even hev, Cm.byte_next]
        clear H2 hodd hev
        go_wp2
        go_round
        case rel => exact ⟨k + 1, r / 2, by omega, by go_num, rfl, by omega, H3⟩
        case measure => simp [intOf]; omega
    · obtain rfl : k = 8 := by omega
      have HE : Hid (r = Cm.next c b) := Lib.hid (by rw [← H.out, Cm.byte_end]; simp [Cm.steps])
      clear H
      go_wp2
      go_ret
      exact ⟨ret_u32 HE.out, rfl⟩
end Go.Proofs.YtndbjdnfibpicaaR
end
section
namespace Go.Proofs.YtndbjdnfibpicaaR
open Go.ChangeShapes Go.WideShapes Go.ChangeAt Go.RowKit

set_option maxHeartbeats 400000 in
theorem refSum_any (A : Option Addr) (n c : Nat) (l : List UInt8) (B : Nat) (w : World) (hs : Bs w B A n l) (hn : n ≤ 9223372036854775807) :
    Calls Try.prog 79 #[.slice A n c] w fun e w' => e = .returned (.int .u32 (Cm.sum l : Nat)) ∧ w = w' := by
  have HL : Hid (l.length = n) := Lib.hid hs.1
  have HC := Lib.hid hs.2
  clear hs
  go_enter Try.func79, Try.ntmps79
  go_wp2
  go_loop [3, 8] (fun t i => ∃ (k d : Nat), k ≤ n ∧ i = .int .i64 k ∧ t = .int .u32 d ∧ d < 4294967296 ∧ Hid (Cm.many d (l.drop k) = Cm.many Cm.ones l)) (fun _ i => n - (intOf i).toNat)
  case atStart => exact ⟨0, Cm.ones, by omega, rfl, rfl, Cm.ones_lt, Lib.hid rfl⟩
  case round =>
    obtain ⟨k, d, hk, rfl, rfl, hd, H⟩ := hrel
    by_cases hlt : k < n
    · obtain ⟨b, off, rfl, hB, hc⟩ := HC.out (by omega)
      have hkl : k < l.length := by rw [HL.out]; exact hlt
      have hcell := hc k hkl
      obtain ⟨x, hx⟩ : ∃ x, x = l[k] := ⟨_, rfl⟩
      rw [← hx] at hcell
      have H2 : Hid (Cm.many (Cm.next d x) (l.drop (k + 1)) = Cm.many Cm.ones l) := by
        refine Lib.hid ?_
        rw [← H.out, List.drop_eq_getElem_cons hkl, hx]
        rfl
      have hl := Cm.next_lt x hd
      clear H hx hc HC HL
      go_wp2_with (go_at_call 84; refine (refNext_any d x _ hd).mono ?_; rintro e w' ⟨rfl, rfl⟩)
      go_round
      case rel => exact ⟨k + 1, _, by omega, by go_num, rfl, hl, H2⟩
      case measure => simp [intOf]; omega
    · have HE : Hid (d ^^^ Cm.ones = Cm.sum l) := Lib.hid (by unfold Cm.sum; rw [← H.out, List.drop_of_length_le (by rw [HL.out]; omega)]; rfl)
      have hm := u32_not' d hd
      clear H
      go_wp2
      go_ret
      exact ⟨ret_u32 HE.out, rfl⟩
end Go.Proofs.YtndbjdnfibpicaaR
end
