/-
  The program's Keeps; the law's example.
-/
import Derived.Test.YtgnncbbfbhipaaaFlashKept
import Derived.Test.YtgnncbbfbhipaaaFlashYes
namespace Go.Proofs.Ytgnncbbfbhipaaa
open Go.ChangeShapes Go.WideShapes Go.ChangeAt Go.RowKit Fl
set_option maxRecDepth 100000

/-- whether a page is kept -/
def keepsB (K : Nat) (t i : Int) : Bool := decide (0 ≤ i ∧ i ≠ t ∧ K / 2 ^ i.toNat % 2 = 1)
theorem keeps_any (K : Nat) (t u i : Int) (hK : K < 18446744073709551616) (w : World) :
    Calls Try.prog 23 #[.agg #[.int .u64 K, .int .i64 t, .int .i64 u], .int .i64 i] w fun e w' => e = .returned (.bool (keepsB K t i)) ∧ Below w.heap.size w w' := by
  have hb := below_new4 w (.cells #[.int .u64 K, .int .i64 t, .int .i64 u] 27)
  unfold keepsB
  by_cases h0 : 0 ≤ i
  · obtain ⟨n, rfl⟩ : ∃ n : Nat, i = n := ⟨i.toNat, by omega⟩
    have hd : decide ((0 : Int) ≤ n) = true := decide_eq_true h0
    by_cases ht : (n : Int) = t
    · rw [decide_eq_false (fun h => h.2.1 ht)]
      have hte : ((n : Int) != t) = false := by simpa using ht
      clear ht h0
      go_enter Try.func23, Try.ntmps23
      go_wp2
      go_ret
      exact ⟨rfl, hb⟩
    · have hte : ((n : Int) != t) = true := by simpa using ht
      have hbit := bit_of K n hK
      by_cases hk : K / 2 ^ n % 2 = 1
      · rw [decide_eq_true ⟨h0, ht, hk⟩]
        rw [decide_eq_true hk] at hbit
        clear ht hk h0
        go_enter Try.func23, Try.ntmps23
        go_wp2
        go_ret
        exact ⟨rfl, hb⟩
      · rw [decide_eq_false (fun h => hk h.2.2)]
        rw [decide_eq_false hk] at hbit
        clear ht hk h0
        go_enter Try.func23, Try.ntmps23
        go_wp2
        go_ret
        exact ⟨rfl, hb⟩
  · rw [decide_eq_false (fun h => h0 h.1)]
    have hd : decide ((0 : Int) ≤ i) = false := decide_eq_false h0
    clear h0
    go_enter Try.func23, Try.ntmps23
    go_wp2
    go_ret
    exact ⟨rfl, hb⟩
theorem awake12 (w : World) : Calls Try.prog 6 #[] w fun e w' => e = .returned (.bool true) ∧ Below w.heap.size w w' := by
  have ck : Calls Try.prog 23 #[.agg #[.int .u64 4, .int .i64 (-1), .int .i64 0], .int .i64 2] w fun e w' => e = .returned (.bool true) ∧ Below w.heap.size w w' := by
    have h := keeps_any 4 (-1) 0 2 (by omega) w
    rw [show keepsB 4 (-1) 2 = true by decide] at h
    exact h
  go_enter Try.func6, Try.ntmps6
  go_wp2_with (go_at_call 23; (with_reducible refine ck.mono ?_); rintro e w1 ⟨rfl, hb1⟩)
  go_ret
  exact ⟨rfl, hb1⟩
end Go.Proofs.Ytgnncbbfbhipaaa
