/-
  slices.Index, slices.Contains at ints.
-/
import Derived.Test.YtndbjdnfibpicaaRLogMath
import Derived.Test.YtndbjdnfibpicaaRMBytes
import Derived.LoopTactic
import Derived.IntWalk
import Derived.WalkKit
import Derived.ProofKit
import Derived.Lib.Hide
namespace Go.Proofs.YtndbjdnfibpicaaR
open Go.ChangeShapes Go.WideShapes Go.ChangeAt Go.RowKit Lo
set_option maxRecDepth 100000

theorem index_any (A : Option Addr) (n c : Nat) (xs : List Int) (x : Int) (w : World) (h : Vs w w.heap.size A n (nums .i64 xs)) (hn : n ≤ 1000000) :
    Calls Try.prog 33 #[.slice A n c, .int .i64 x] w fun e w' => e = .returned (.int .i64 (ixI x xs)) ∧ w = w' := by
  have HV := Lib.hid h
  have hl : xs.length = n := by have := h.1; rwa [nums_length] at this
  have HL := Lib.hid hl
  clear h hl
  go_enter Try.func33, Try.ntmps33
  go_wp2
  go_loopw [5, 8] (fun _ i wr => ∃ k : Nat, k ≤ n ∧ i = .int .i64 k ∧ Hid (∀ j : Nat, j < k → xs[j]? ≠ some x) ∧ w = wr) (fun _ i _ => n - (intOf i).toNat)
  case atStart => exact ⟨0, Nat.zero_le _, rfl, Lib.hid (fun j hj => absurd hj (by omega)), rfl⟩
  case round =>
    obtain ⟨k, hk, rfl, HA, rfl⟩ := hrel
    by_cases hlt : k < n
    · obtain ⟨b, off, rfl, -, hc⟩ := HV.out.2 (by omega)
      have hkx : k < xs.length := by rw [HL.out]; exact hlt
      have hck := hc k (by rw [nums_length]; exact hkx)
      rw [nums_get _ _ _ _ hkx] at hck
      have HG := Lib.hid (List.getElem?_eq_getElem hkx)
      generalize xs[k] = y at hck HG
      clear hc hkx
      by_cases he : x = y
      · subst he
        have HR : Hid (ixI x xs = (k : Int)) := Lib.hid (ixI_some HG.out HA.out)
        go_wp2
        go_ret
        exact ⟨by rw [HR.out]; rfl, rfl⟩
      · have hne : (x == y) = false := by simpa using he
        have HA2 : Hid (∀ j : Nat, j < k + 1 → xs[j]? ≠ some x) := Lib.hid fun j hj => by
          rcases Nat.lt_or_ge j k with h1 | h1
          · exact HA.out j h1
          · obtain rfl : j = k := by omega
            rw [HG.out]
            intro e
            injection e with e
            exact he e.symm
        clear he
        go_wp2
        go_roundw
        case rel => exact ⟨k + 1, by omega, by go_num, HA2, by first | rfl | trivial⟩
        case measure => simp [intOf]; omega
    · obtain rfl : k = n := by omega
      have HR : Hid (ixI x xs = -1) := Lib.hid (ixI_none fun j hj => by
        rcases Nat.lt_or_ge j k with h1 | h1
        · exact HA.out j h1 hj
        · rw [List.getElem?_eq_none (by rw [HL.out]; exact h1)] at hj
          cases hj)
      go_wp2
      go_ret
      exact ⟨by rw [HR.out]; rfl, rfl⟩
theorem contains_nil (x : Int) (w : World) : Calls Try.prog 48 #[.slice none 0 0, .int .i64 x] w fun e w' => e = .returned (.bool false) ∧ w = w' := by
  have ci := index_any none 0 0 [] x w (Vs.nil _ _ _) (by omega)
  have e1 : ixI x [] = -1 := rfl
  rw [e1] at ci
  go_enter Try.func48, Try.ntmps48
  go_wp2_with (go_at_call 33; (with_reducible refine ci.mono ?_); rintro e w1 ⟨rfl, rfl⟩)
  go_ret
  exact ⟨rfl, rfl⟩
end Go.Proofs.YtndbjdnfibpicaaR
