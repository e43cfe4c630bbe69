/-
  may, bit, Has (over a program of 65 words).
-/
import Derived.Test.YtcmhodimkpkmbaaDoorBitMap
import Derived.LoopTactic
import Derived.Laws.BitsAllLaws
import Derived.BigQuiet
import Derived.Deep.QuietTactic
namespace Go.Proofs.YtcmhodimkpkmbaaDoor
open Go.ChangeShapes Go.WideShapes Go.ChangeAt Go.RowKit
set_option maxRecDepth 100000

/-- whether a number may be in a map -/
def mayB (i : Int) : Bool := decide (0 ≤ i ∧ i ≤ 4096)
theorem may_any (i : Int) (w : World) : Calls Tryd.prog 46 #[.int .i64 i] w fun e w' => e = .returned (.bool (mayB i)) ∧ w = w' := by
  unfold mayB
  by_cases h1 : 0 ≤ i
  · by_cases h2 : i < 4097
    · rw [decide_eq_true ⟨h1, by omega⟩]
      go_enter Tryd.func46, Tryd.ntmps46
      go_wp2
      go_ret
      exact ⟨rfl, rfl⟩
    · rw [decide_eq_false (fun h => h2 (by omega))]
      have e2 : decide (i < 4097) = false := decide_eq_false h2
      go_enter Tryd.func46, Tryd.ntmps46
      go_wp2
      go_ret
      exact ⟨rfl, rfl⟩
  · rw [decide_eq_false (fun h => h1 h.1)]
    have e1 : decide (0 ≤ i) = false := decide_eq_false h1
    go_enter Tryd.func46, Tryd.ntmps46
    go_wp2
    go_ret
    exact ⟨rfl, rfl⟩
theorem tdiv64 (k j : Nat) (hj : j < 64) : (((64 * k + j : Nat) : Int)).tdiv 64 = (k : Int) := by
  rw [Int.tdiv_eq_ediv_of_nonneg (by omega)]
  omega
theorem tmod64 (k j : Nat) (hj : j < 64) : (((64 * k + j : Nat) : Int)).tmod 64 = (j : Int) := by
  rw [Int.tmod_eq_emod_of_nonneg (by omega)]
  omega
/-- the bit of a number -/
theorem bit_any (k j : Nat) (hj : j < 64) (w : World) : Calls Tryd.prog 47 #[.int .i64 ((64 * k + j : Nat) : Int)] w fun e w' => e = .returned (.int .u64 ((2 ^ j : Nat) : Int)) ∧ w = w' := by
  have hr := tmod64 k j hj
  have hw := wrap_bit hj
  generalize ((64 * k + j : Nat) : Int) = i at *
  have hj0 : (0 : Int) ≤ (j : Int) := by omega
  have hj1 : (j : Int) < 64 := by omega
  obtain ⟨y, hy⟩ : ∃ y : Int, y = ((2 ^ j : Nat) : Int) := ⟨_, rfl⟩
  rw [← hy] at hw ⊢
  clear hy
  go_enter Tryd.func47, Tryd.ntmps47
  go_wp2
  go_ret
  exact ⟨by first | rfl | (rw [hw]), rfl⟩
theorem and_bit (x j : Nat) (hx : x < 18446744073709551616) (hj : j < 64) : (bits BinOp.and IntKind.u64 (x : Int) ((2 ^ j : Nat) : Int) != 0) = x.testBit j := by
  rw [u64_and_nat _ _ hx (show 2 ^ j < 2 ^ 64 from Nat.pow_lt_pow_right (by omega) hj)]
  have e : x &&& 2 ^ j = (x.testBit j).toNat * 2 ^ j := by
    refine Nat.eq_of_testBit_eq fun i => ?_
    rw [Nat.testBit_and, Nat.testBit_two_pow]
    by_cases h : j = i
    · subst h
      cases x.testBit j <;> simp
    · rw [decide_eq_false h, Bool.and_false]
      cases x.testBit j <;> simp [h]
  rw [e]
  have hp : 2 ^ j ≠ 0 := by have := Nat.two_pow_pos j; omega
  generalize 2 ^ j = p at *
  cases x.testBit j
  · simp
  · simp [hp]
end Go.Proofs.YtcmhodimkpkmbaaDoor
