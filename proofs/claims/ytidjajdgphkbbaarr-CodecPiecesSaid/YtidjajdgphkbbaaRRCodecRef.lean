/-
  The document's owner, number, RightPiece, SamePiece, begin, Piece.
-/
import Derived.Test.YtidjajdgphkbbaaRRCodecMath
import Derived.Test.YtidjajdgphkbbaaRRRefLay
import Derived.Test.YtidjajdgphkbbaaRRRefBytes
import Derived.Test.YtidjajdgphkbbaaRRFour
import Derived.Deep.RegionHeld3
namespace Go.Proofs.YtidjajdgphkbbaaRR
open Go.ChangeShapes Go.WideShapes Go.ChangeAt Go.RowKit
set_option maxRecDepth 100000

theorem owner17_any (o g : Int) (w : World) : Calls Try.prog 19 #[.int .i64 o, .int .i64 g] w fun e w' => e = .returned (.bool (Cp.own o g)) ∧ w = w' := by
  unfold Cp.own
  rcases (by omega : (0 ≤ o ∧ o ≤ 15 ∧ 1 ≤ g ∧ g ≤ 2147483647) ∨ (0 ≤ o ∧ o ≤ 15 ∧ 1 ≤ g ∧ ¬ g ≤ 2147483647) ∨ (0 ≤ o ∧ o ≤ 15 ∧ ¬ 1 ≤ g) ∨ (0 ≤ o ∧ ¬ o ≤ 15) ∨ ¬ 0 ≤ o) with ⟨h1, h2, h3, h4⟩ | ⟨h1, h2, h3, h4⟩ | ⟨h1, h2, h3⟩ | ⟨h1, h2⟩ | h1
  · rw [decide_eq_true ⟨h1, h2, h3, h4⟩]
    go_enter Try.func19, Try.ntmps19
    go_wp2
    go_ret
    exact ⟨rfl, rfl⟩
  · rw [decide_eq_false (fun h => h4 h.2.2.2)]
    have e := decide_eq_false h4
    go_enter Try.func19, Try.ntmps19
    go_wp2
    go_ret
    exact ⟨rfl, rfl⟩
  · rw [decide_eq_false (fun h => h3 h.2.2.1)]
    have e := decide_eq_false h3
    go_enter Try.func19, Try.ntmps19
    go_wp2
    go_ret
    exact ⟨rfl, rfl⟩
  · rw [decide_eq_false (fun h => h2 h.2.1)]
    have e := decide_eq_false h2
    go_enter Try.func19, Try.ntmps19
    go_wp2
    go_ret
    exact ⟨rfl, rfl⟩
  · rw [decide_eq_false (fun h => h1 h.1)]
    have e := decide_eq_false h1
    go_enter Try.func19, Try.ntmps19
    go_wp2
    go_ret
    exact ⟨rfl, rfl⟩
/-- a piece as a value -/
abbrev pieceV (o g i : Int) (A : Option Addr) (n c : Nat) : Value := .agg #[.int .i64 o, .int .i64 g, .int .i64 i, .slice A n c]
set_option maxHeartbeats 1000000 in
theorem rightPiece_any (o g i : Int) (A : Option Addr) (n c : Nat) (w : World) : Calls Try.prog 9 #[pieceV o g i A n c] w fun e w' =>
    e = .returned (.bool (Cp.own o g && decide (0 ≤ i ∧ i ≤ 4096 ∧ 1 ≤ n ∧ n ≤ 64))) ∧ Below w.heap.size w w' := by
  have hb := below_new4 w (.cells #[.int .i64 o, .int .i64 g, .int .i64 i, .slice A n c] 24)
  have co := owner17_any o g (w.alloc (.cells #[.int .i64 o, .int .i64 g, .int .i64 i, .slice A n c] 24))
  generalize Cp.own o g = q at *
  cases q
  · rw [Bool.false_and]
    go_enter Try.func9, Try.ntmps9
    go_wp2_with (go_at_call 19; (with_reducible refine co.mono ?_); rintro e w1 ⟨rfl, rfl⟩)
    go_ret
    exact ⟨rfl, hb⟩
  · rw [Bool.true_and]
    rcases (by omega : (0 ≤ i ∧ i ≤ 4096 ∧ 1 ≤ n ∧ n ≤ 64) ∨ (0 ≤ i ∧ i ≤ 4096 ∧ 1 ≤ n ∧ ¬ n ≤ 64) ∨ (0 ≤ i ∧ i ≤ 4096 ∧ ¬ 1 ≤ n) ∨ (0 ≤ i ∧ ¬ i ≤ 4096) ∨ ¬ 0 ≤ i) with ⟨h1, h2, h3, h4⟩ | ⟨h1, h2, h3, h4⟩ | ⟨h1, h2, h3⟩ | ⟨h1, h2⟩ | h1
    · rw [decide_eq_true ⟨h1, h2, h3, h4⟩]
      have e1 : decide ((1 : Int) ≤ (n : Int)) = true := decide_eq_true (by omega)
      have e2 : decide ((n : Int) ≤ 64) = true := decide_eq_true (by omega)
      go_enter Try.func9, Try.ntmps9
      go_wp2_with (go_at_call 19; (with_reducible refine co.mono ?_); rintro e w1 ⟨rfl, rfl⟩)
      go_ret
      exact ⟨rfl, hb⟩
    · rw [decide_eq_false (fun h => h4 h.2.2.2)]
      have e1 : decide ((1 : Int) ≤ (n : Int)) = true := decide_eq_true (by omega)
      have e2 : decide ((n : Int) ≤ 64) = false := decide_eq_false (by omega)
      go_enter Try.func9, Try.ntmps9
      go_wp2_with (go_at_call 19; (with_reducible refine co.mono ?_); rintro e w1 ⟨rfl, rfl⟩)
      go_ret
      exact ⟨rfl, hb⟩
    · rw [decide_eq_false (fun h => h3 h.2.2.1)]
      have e1 : decide ((1 : Int) ≤ (n : Int)) = false := decide_eq_false (by omega)
      go_enter Try.func9, Try.ntmps9
      go_wp2_with (go_at_call 19; (with_reducible refine co.mono ?_); rintro e w1 ⟨rfl, rfl⟩)
      go_ret
      exact ⟨rfl, hb⟩
    · rw [decide_eq_false (fun h => h2 h.2.1)]
      have e1 : decide (i ≤ 4096) = false := decide_eq_false h2
      go_enter Try.func9, Try.ntmps9
      go_wp2_with (go_at_call 19; (with_reducible refine co.mono ?_); rintro e w1 ⟨rfl, rfl⟩)
      go_ret
      exact ⟨rfl, hb⟩
    · rw [decide_eq_false (fun h => h1 h.1)]
      have e1 : decide (0 ≤ i) = false := decide_eq_false h1
      go_enter Try.func9, Try.ntmps9
      go_wp2_with (go_at_call 19; (with_reducible refine co.mono ?_); rintro e w1 ⟨rfl, rfl⟩)
      go_ret
      exact ⟨rfl, hb⟩
set_option maxHeartbeats 1000000 in
/-- of bytes, the highest first: as an int -/
theorem number17_any (A : Option Addr) (n c : Nat) (l : List UInt8) (B : Nat) (w : World) (hs : Bs w B A n l) (hn : n ≤ 7) :
    Calls Try.prog 18 #[.slice A n c] w fun e w' => e = .returned (.int .i64 (Fm.num l : Nat)) ∧ w = w' := by
  have HS := Lib.hid hs
  have hlt := Fm.num_lt l
  rw [hs.len] at hlt
  have h56 : Fm.num l < 72057594037927936 := Nat.lt_of_lt_of_le hlt (by
    have : 2 ^ (8 * n) ≤ 2 ^ 56 := Nat.pow_le_pow_right (by omega) (by omega)
    simpa using this)
  have HLT := Lib.hid h56
  clear hs hlt h56
  go_enter Try.func18, Try.ntmps18
  go_wp2
  go_loopw [3, 5, 8] (fun t _ i wr => ∃ j a : Nat, j ≤ n ∧ i = .int .i64 j ∧ t = .int .u64 a ∧ Hid (a = Fm.num (l.take j)) ∧ wr = w) (fun _ _ i _ => n - (intOf i).toNat)
  case atStart => exact ⟨0, 0, Nat.zero_le _, rfl, rfl, Lib.hid rfl, rfl⟩
  case round =>
    obtain ⟨j, a, hj, rfl, rfl, HA, rfl⟩ := hrel
    by_cases hlt : j < n
    · obtain ⟨b, off, rfl, hbB, hc⟩ := HS.out.2 (by omega)
      have hjl : j < l.length := by rw [HS.out.len]; exact hlt
      have hcj := hc j hjl
      have hal : a < 2 ^ (8 * j) := by
        rw [HA.out]
        have := Fm.num_lt (l.take j)
        rwa [List.length_take, Nat.min_eq_left (by omega)] at this
      have hal2 : a < 281474976710656 := Nat.lt_of_lt_of_le hal (by
        have : 2 ^ (8 * j) ≤ 2 ^ 48 := Nat.pow_le_pow_right (by omega) (by omega)
        simpa using this)
      have HN : Hid (a * 256 + l[j].toNat = Fm.num (l.take (j + 1))) := Lib.hid (by
        rw [List.take_succ_eq_append_getElem hjl]
        unfold Fm.num
        rw [Fm.numFrom_snoc]
        have := HA.out
        unfold Fm.num at this
        rw [this])
      generalize l[j] = y at hcj HN
      have hy := y.toNat_lt
      have w1 : IntKind.u64.wrap ((a : Int) * 256) = ((a * 256 : Nat) : Int) := by rw [IntWalk.u64_in _ (by omega)]; simp
      have w2 : IntKind.u64.wrap ((y.toNat : Nat) : Int) = ((y.toNat : Nat) : Int) := IntWalk.u64_in _ (by omega)
      have w3 : IntKind.u64.wrap ((a : Int) * 256 + ((y.toNat : Nat) : Int)) = ((a * 256 + y.toNat : Nat) : Int) := by rw [IntWalk.u64_in _ (by omega)]; simp
      have w4 : IntKind.u64.wrap (((a * 256 : Nat) : Int) + ((y.toNat : Nat) : Int)) = ((a * 256 + y.toNat : Nat) : Int) := by rw [IntWalk.u64_in _ (by omega)]; simp
      clear hc hal
      go_wp2
      go_roundw
      case rel => exact ⟨j + 1, a * 256 + y.toNat, by omega, by go_num, by first | rfl | simp, HN, by first | rfl | trivial⟩
      case measure => simp [intOf]; omega
    · obtain rfl : j = n := by omega
      have HA2 : Hid (a = Fm.num l) := Lib.hid (by have := HA.out; rwa [List.take_of_length_le (by rw [HS.out.len]; exact Nat.le_refl _)] at this)
      have hal : a < 72057594037927936 := by rw [HA2.out]; exact HLT.out
      have w1 : IntKind.i64.wrap (a : Int) = (a : Int) := IntWalk.i64_in _ (by omega)
      go_wp2
      go_ret
      exact ⟨by rw [← HA2.out]; rfl, rfl⟩
end Go.Proofs.YtidjajdgphkbbaaRR
