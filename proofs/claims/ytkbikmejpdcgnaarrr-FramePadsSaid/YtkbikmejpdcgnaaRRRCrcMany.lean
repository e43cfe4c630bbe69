/-
  Contracts of crc.Many and crc.Sum.
-/
import Derived.Test.YtkbikmejpdcgnaaRRRCrcNext
import Derived.Test.YtkbikmejpdcgnaaRRRBytes
import Derived.Deep.LoopGhost
namespace Go.Proofs.YtkbikmejpdcgnaaRRR
open Go.ChangeShapes Go.WideShapes Go.ChangeAt Go.RowKit

set_option maxHeartbeats 400000 in
theorem many_any (r : Nat) (A : Option Addr) (n c : Nat) (l : List UInt8) (B : Nat) (w : World) (hs : Bs w B A n l) (hr : r < 2 ^ 32) (hn : n ≤ 9223372036854775807) :
    Calls Try.prog 11 #[.int .u32 (r : Int), .slice A n c] w fun e w' => e = .returned (.int .u32 (Cm.many r l : Nat)) ∧ w = w' := by
  have HL : Hid (l.length = n) := Lib.hid hs.1
  have HC := Lib.hid hs.2
  clear hs
  go_enter Try.func11, Try.ntmps11
  go_wp2
  go_loop [0, 9] (fun t i => ∃ (k d : Nat), k ≤ n ∧ i = .int .i64 k ∧ t = .int .u32 d ∧ d < 4294967296 ∧ Hid (Cm.many d (l.drop k) = Cm.many r l)) (fun _ i => n - (intOf i).toNat)
  case atStart => exact ⟨0, r, by omega, rfl, rfl, hr, Lib.hid rfl⟩
  case round =>
    obtain ⟨k, d, hk, rfl, rfl, hd, H⟩ := hrel
    clear hr
    by_cases hlt : k < n
    · obtain ⟨b, off, rfl, hB, hc⟩ := HC.out (by omega)
      have hkl : k < l.length := by rw [HL.out]; exact hlt
      have hcell := hc k hkl
      obtain ⟨x, hx⟩ : ∃ x, x = l[k] := ⟨_, rfl⟩
      rw [← hx] at hcell
      have H2 : Hid (Cm.many (Cm.next d x) (l.drop (k + 1)) = Cm.many r l) := by
        refine Lib.hid ?_
        rw [← H.out, List.drop_eq_getElem_cons hkl, hx]
        rfl
      have hl := Cm.next_lt x hd
      clear H hx hc HC HL
      go_wp2_with (go_at_call 12; refine (next_any d x _ hd).mono ?_; rintro e w' ⟨rfl, rfl⟩)
      go_round
      case rel => exact ⟨k + 1, _, by omega, by go_num, rfl, hl, H2⟩
      case measure => simp [intOf]; omega
    · have HE : Hid (d = Cm.many r l) := Lib.hid (by rw [← H.out, List.drop_of_length_le (by rw [HL.out]; omega)]; rfl)
      clear H
      go_wp2
      go_ret
      exact ⟨ret_u32 HE.out, rfl⟩

theorem u32_not (m : Nat) (h : m < 2 ^ 32) : bits .xor .u32 IntKind.u32.max (m : Int) = ((m ^^^ Cm.ones : Nat) : Int) := by
  rw [Nat.xor_comm]
  exact u32_xor_nat Cm.ones m Cm.ones_lt h
theorem u32_not' (m : Nat) (h : m < 2 ^ 32) : bits .xor .u32 (m : Int) 4294967295 = ((m ^^^ Cm.ones : Nat) : Int) := u32_xor_nat m Cm.ones h Cm.ones_lt

theorem sum_any (A : Option Addr) (n c : Nat) (l : List UInt8) (B : Nat) (w : World) (hs : Bs w B A n l) (hn : n ≤ 9223372036854775807) :
    Calls Try.prog 10 #[.slice A n c] w fun e w' => e = .returned (.int .u32 (Cm.sum l : Nat)) ∧ w = w' := by
  have cm := many_any Cm.ones A n c l B w hs Cm.ones_lt hn
  have hm := u32_not _ (Cm.many_lt l Cm.ones_lt)
  have HS : Hid (Cm.many Cm.ones l ^^^ Cm.ones = Cm.sum l) := Lib.hid rfl
  clear hs
  go_enter Try.func10, Try.ntmps10
  go_wp2_with (go_at_call 11; refine cm.mono ?_; rintro e w' ⟨rfl, rfl⟩)
  go_ret
  exact ⟨ret_u32 HS.out, rfl⟩
end Go.Proofs.YtkbikmejpdcgnaaRRR
