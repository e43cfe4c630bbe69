/-
  Contracts of package nums: Fits, Parse.
-/
import Derived.Test.YtlilkcbhlinolaaDoorChecked
import Derived.Test.YtlilkcbhlinolaaDoorMath
import Derived.WalkKit
import Derived.ProofKit
import Derived.OpenShut
import Derived.Outline
import Derived.Lib.Hide
import Derived.LoopTactic
import Derived.Deep.QuietTactic
import Derived.BigQuiet
import Derived.Lib.Strings
import Derived.WalkMore
import Derived.Deep.LoopGhost
namespace Go.Proofs.YtlilkcbhlinolaaDoor
open Go.ChangeShapes Go.WideShapes Go.ChangeAt Go.RowKit

theorem ret_two {k : IntKind} {a b : Int} {p : Int × Int} (h : (a, b) = p) : Ending.returned (.tuple #[.int k a, .int k b]) = .returned (.tuple #[.int k p.1, .int k p.2]) := by subst h; rfl

theorem fits_yes (n a b : Int) (w : World) (h1 : a ≤ n) (h2 : n ≤ b) :
    Calls Tryd.prog 23 #[.int .i64 n, .int .i64 a, .int .i64 b] w fun e w' => e = .returned (.bool true) ∧ w = w' := by
  go_enter Tryd.func23, Tryd.ntmps23
  go_wp2
  go_ret
  exact ⟨rfl, rfl⟩

theorem fits_no (n a b : Int) (w : World) (h : ¬ (a ≤ n ∧ n ≤ b)) :
    Calls Tryd.prog 23 #[.int .i64 n, .int .i64 a, .int .i64 b] w fun e w' => e = .returned (.bool false) ∧ w = w' := by
  by_cases h1 : a ≤ n
  · have h2 : decide (n ≤ b) = false := decide_eq_false fun h2 => h ⟨h1, h2⟩
    clear h
    go_enter Tryd.func23, Tryd.ntmps23
    go_wp2
    go_ret
    exact ⟨rfl, rfl⟩
  · have h1' : n < a := by omega
    clear h h1
    go_enter Tryd.func23, Tryd.ntmps23
    go_wp2
    go_ret
    exact ⟨rfl, rfl⟩


theorem parse_empty (s : ByteArray) (w : World) (h0 : s.data.toList = []) :
    Calls Tryd.prog 68 #[.string s] w fun e w' => e = .returned (.tuple #[.int .i64 0, .int .i64 3]) ∧ w = w' := by
  have hl : s.toList.isEmpty = true := by rw [Lib.toList_data, h0]; rfl
  go_enter Tryd.func68, Tryd.ntmps68
  go_wp2
  go_step3
  go_wp2
  rw [Exit.noGoto_ret]
  go_ret2
  exact ⟨rfl, rfl⟩

set_option maxHeartbeats 400000 in
theorem parse_some (s : ByteArray) (w : World) (hs : s.size ≤ maxLen) (h0 : s.data.toList ≠ []) :
    Calls Tryd.prog 68 #[.string s] w fun e w' => e = .returned (.tuple #[.int .i64 (Nm.go 0 0 s.data.toList).1, .int .i64 (Nm.go 0 0 s.data.toList).2]) ∧ w = w' := by
  unfold maxLen at hs
  have hl : s.toList.isEmpty = false := by
    rw [Lib.toList_data]
    cases hh : s.data.toList with
    | nil => exact absurd hh h0
    | cons a b => rfl
  clear h0
  go_enter Tryd.func68, Tryd.ntmps68
  go_wp2
  go_step3
  go_wp2
  go_step3
  go_wp2
  go_loopg [4, 5, 12] s.size (fun g s4 s5 s12 wx => ∃ (k : Nat) (n e : Int), k + g = s.size ∧ s4 = .int .i64 n ∧ s5 = .int .i64 e ∧ s12 = .int .i64 k ∧ 0 ≤ n ∧ n ≤ 4611686018427387903 ∧ (e = 0 ∨ e = 9) ∧ Nm.go n e (s.data.toList.drop k) = Nm.go 0 0 s.data.toList ∧ wx = w)
  case atStart => exact ⟨0, 0, 0, by omega, rfl, rfl, rfl, by omega, by omega, Or.inl rfl, by simp, rfl⟩
  case round =>
    obtain ⟨k, n, e, hk, rfl, rfl, rfl, hn0, hn1, he, hgo, rfl⟩ := hrel
    by_cases hlt : k < s.size
    · obtain ⟨g', rfl⟩ : ∃ g', gk = g' + 1 := ⟨gk - 1, by omega⟩
      have hd := Nm.drop_cons s k hlt
      rw [hd] at hgo
      have HG : Hid (Nm.go n e (s[k] :: s.data.toList.drop (k + 1)) = Nm.go 0 0 s.data.toList) := Lib.hid hgo
      clear hgo hd
      by_cases hdig : 48 ≤ (s[k].toNat : Int) ∧ (s[k].toNat : Int) ≤ 57
      · obtain ⟨hd1, hd2⟩ := hdig
        have e0 : 0 ≤ (s[k].toNat : Int) - 48 := by omega
        have e9 : (s[k].toNat : Int) - 48 ≤ 9 := by omega
        rcases he with rfl | rfl
        · by_cases ho : (4611686018427387903 - ((s[k].toNat : Int) - 48)) / 10 < n
          · go_wp2
            go_roundg g'
            case measure => omega
            case rel => exact ⟨k + 1, 0, 9, by omega, rfl, rfl, by go_num, by omega, by omega, Or.inr rfl, (Nm.go_over (Nm.digB_yes hd1 hd2) ho).symm.trans HG.out, rfl⟩
          · go_wp2
            go_roundg g'
            case measure => omega
            case rel => exact ⟨k + 1, 10 * n + ((s[k].toNat : Int) - 48), 0, by omega, rfl, rfl, by go_num, by omega, by omega, Or.inl rfl, (Nm.go_dig (Nm.digB_yes hd1 hd2) (by unfold Nm.maxNum; omega)).symm.trans HG.out, rfl⟩
        · go_wp2
          go_roundg g'
          case measure => omega
          case rel => exact ⟨k + 1, n, 9, by omega, rfl, rfl, by go_num, by omega, by omega, Or.inr rfl, (Nm.go_err (Nm.digB_yes hd1 hd2) (by omega)).symm.trans HG.out, rfl⟩
      · have hb := Nm.go_bad (n := n) (e := e) (l := s.data.toList.drop (k + 1)) (Nm.digB_no hdig)
        have HB : Hid ((0, 3) = Nm.go 0 0 s.data.toList) := Lib.hid (hb.symm.trans HG.out)
        clear hb HG
        have b1 : 0 ≤ (s[k].toNat : Int) := by omega
        have b2 : (s[k].toNat : Int) ≤ 255 := by have := s[k].toNat_lt; omega
        have hf := fits_no ((s[k].toNat : Int) - 48) 0 9 wr (by omega)
        clear hdig
        go_wp2_with (go_at_call 23; refine hf.mono ?_; rintro e w' ⟨rfl, rfl⟩)
        rw [Exit.noGoto_ret]
        go_ret2
        exact ⟨ret_two HB.out, rfl⟩
    · have hd := Nm.drop_all s k (by omega)
      rw [hd, Nm.go_nil] at hgo
      have HG : Hid ((n, e) = Nm.go 0 0 s.data.toList) := Lib.hid hgo
      clear hgo hd
      go_wp2
      rw [Exit.noGoto_ret]
      go_ret2
      exact ⟨ret_two HG.out, rfl⟩

theorem parse_any (s : ByteArray) (w : World) (hs : s.size ≤ maxLen) :
    Calls Tryd.prog 68 #[.string s] w fun e w' => e = .returned (.tuple #[.int .i64 (Nm.parse s.data.toList).1, .int .i64 (Nm.parse s.data.toList).2]) ∧ w = w' := by
  by_cases h0 : s.data.toList = []
  · unfold Nm.parse; rw [if_pos h0]; exact parse_empty s w h0
  · unfold Nm.parse; rw [if_neg h0]; exact parse_some s w hs h0
end Go.Proofs.YtlilkcbhlinolaaDoor
