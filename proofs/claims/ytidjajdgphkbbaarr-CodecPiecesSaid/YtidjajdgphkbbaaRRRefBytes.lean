/-
  Contract of the document's own look whether two rows of bytes are alike.
-/
import Derived.Test.YtidjajdgphkbbaaRRChecked
import Derived.Test.YtidjajdgphkbbaaRRBytes
import Derived.Outline
import Derived.Lib.Hide
import Derived.LoopTactic
import Derived.Deep.QuietTactic
import Derived.BigQuiet
import Derived.IntWalk
namespace Go.Proofs.YtidjajdgphkbbaaRR
open Go.ChangeShapes Go.WideShapes Go.ChangeAt Go.RowKit

def NoMore (w : World) (v : Value) (e : Ending) (w' : World) : Prop := e = .returned v ∧ ∃ m, w' = w.drewN m

theorem bytes_lens (A1 A2 : Option Addr) (n1 c1 n2 c2 : Nat) (w : World) (h : n1 ≠ n2) :
    Calls Try.prog 10 #[.slice A1 n1 c1, .slice A2 n2 c2] w (NoMore w (.bool false)) := by
  have h1 : ((n1 : Int) != (n2 : Int)) = true := by simp; omega
  clear h
  go_enter Try.func10, Try.ntmps10
  go_wp2
  go_ret
  exact ⟨rfl, 0, rfl⟩

set_option maxHeartbeats 400000 in
theorem bytes_same (A1 A2 : Option Addr) (n c1 c2 B : Nat) (l : List UInt8) (w : World) (h1 : Bs w B A1 n l) (h2 : Bs w B A2 n l) (hn : n ≤ 9223372036854775807) :
    Calls Try.prog 10 #[.slice A1 n c1, .slice A2 n c2] w (NoMore w (.bool true)) := by
  have HL : Hid (l.length = n) := Lib.hid h1.1
  have C1 := Lib.hid h1.2
  have C2 := Lib.hid h2.2
  clear h1 h2
  have hne : ((n : Int) != (n : Int)) = false := by simp
  go_enter Try.func10, Try.ntmps10
  go_wp2
  go_loopw [13] (fun i wr => ∃ k m : Nat, k ≤ n ∧ i = .int .i64 k ∧ wr = w.drewN m) (fun i _ => n - (intOf i).toNat)
  case atStart => exact ⟨0, 0, by omega, rfl, rfl⟩
  case round =>
    obtain ⟨k, m, hk, rfl, rfl⟩ := hrel
    clear hne
    by_cases hlt : k < n
    · obtain ⟨b1, o1, rfl, hB1, hc1⟩ := C1.out (by omega)
      obtain ⟨b2, o2, rfl, hB2, hc2⟩ := C2.out (by omega)
      have hkl : k < l.length := by rw [HL.out]; exact hlt
      have e1 := hc1 k hkl
      have e2 := hc2 k hkl
      obtain ⟨x, hx⟩ : ∃ x, x = l[k] := ⟨_, rfl⟩
      rw [← hx] at e1 e2
      have ht : ((x.toNat : Int) != (x.toNat : Int)) = false := by simp
      clear hc1 hc2 C1 C2 HL hx
      go_wp2
      go_quiet (fail)
      go_wp2
      go_roundw
      case rel => exact ⟨k + 1, _, by omega, by go_num, rfl⟩
      case measure => simp [intOf]; omega
    · go_wp2
      go_ret
      exact ⟨rfl, m, rfl⟩

set_option maxHeartbeats 400000 in
/-- the first places that differ: at one of them it stops -/
theorem bytes_other (A1 A2 : Option Addr) (n c1 c2 B : Nat) (l1 l2 : List UInt8) (w : World) (h1 : Bs w B A1 n l1) (h2 : Bs w B A2 n l2) (hn : n ≤ 9223372036854775807) (hd : l1 ≠ l2) :
    Calls Try.prog 10 #[.slice A1 n c1, .slice A2 n c2] w (NoMore w (.bool false)) := by
  have HL1 : Hid (l1.length = n) := Lib.hid h1.1
  have HL2 : Hid (l2.length = n) := Lib.hid h2.1
  have C1 := Lib.hid h1.2
  have C2 := Lib.hid h2.2
  have HD := Lib.hid hd
  clear h1 h2 hd
  have hne : ((n : Int) != (n : Int)) = false := by simp
  go_enter Try.func10, Try.ntmps10
  go_wp2
  go_loopw [13] (fun i wr => ∃ k m : Nat, k ≤ n ∧ i = .int .i64 k ∧ wr = w.drewN m ∧ Hid (l1.take k = l2.take k)) (fun i _ => n - (intOf i).toNat)
  case atStart => exact ⟨0, 0, by omega, rfl, rfl, Lib.hid (by simp)⟩
  case round =>
    obtain ⟨k, m, hk, rfl, rfl, HT⟩ := hrel
    clear hne
    by_cases hlt : k < n
    · obtain ⟨b1, o1, rfl, hB1, hc1⟩ := C1.out (by omega)
      obtain ⟨b2, o2, rfl, hB2, hc2⟩ := C2.out (by omega)
      have hk1 : k < l1.length := by rw [HL1.out]; exact hlt
      have hk2 : k < l2.length := by rw [HL2.out]; exact hlt
      have e1 := hc1 k hk1
      have e2 := hc2 k hk2
      obtain ⟨x, hx⟩ : ∃ x, x = l1[k] := ⟨_, rfl⟩
      obtain ⟨y, hy⟩ : ∃ y, y = l2[k] := ⟨_, rfl⟩
      rw [← hx] at e1
      rw [← hy] at e2
      by_cases hxy : x = y
      · have HT2 : Hid (l1.take (k + 1) = l2.take (k + 1)) := Lib.hid (by rw [List.take_succ_eq_append_getElem hk1, List.take_succ_eq_append_getElem hk2, ← hx, ← hy, HT.out, hxy])
        subst hxy
        have ht : ((x.toNat : Int) != (x.toNat : Int)) = false := by simp
        clear hc1 hc2 C1 C2 HL1 HL2 hx hy HT HD
        go_wp2
        go_quiet (fail)
        go_wp2
        go_roundw
        case rel => exact ⟨k + 1, _, by omega, by go_num, rfl, HT2⟩
        case measure => simp [intOf]; omega
      · have ht : ((x.toNat : Int) != (y.toNat : Int)) = true := by
          have : x.toNat ≠ y.toNat := fun e => hxy (UInt8.toNat_inj.1 e)
          simp
          omega
        clear hc1 hc2 C1 C2 HL1 HL2 hx hy HT HD hxy
        go_wp2
        go_quiet (fail)
        go_wp2
        go_ret
        exact ⟨rfl, _, World.drewN_drewN _ _ _⟩
    · refine absurd ?_ HD.out
      have := HT.out
      rw [List.take_of_length_le (by rw [HL1.out]; omega), List.take_of_length_le (by rw [HL2.out]; omega)] at this
      exact this

/-- two rows of bytes: whether they are alike -/
theorem bytes_any (A1 A2 : Option Addr) (n1 c1 n2 c2 B : Nat) (l1 l2 : List UInt8) (w : World) (h1 : Bs w B A1 n1 l1) (h2 : Bs w B A2 n2 l2) (hn : n1 ≤ 9223372036854775807) :
    Calls Try.prog 10 #[.slice A1 n1 c1, .slice A2 n2 c2] w (NoMore w (.bool (decide (l1 = l2)))) := by
  by_cases hl : n1 = n2
  · subst hl
    by_cases hd : l1 = l2
    · subst hd
      rw [decide_eq_true rfl]
      exact bytes_same A1 A2 n1 c1 c2 B l1 w h1 h2 hn
    · rw [decide_eq_false hd]
      exact bytes_other A1 A2 n1 c1 c2 B l1 l2 w h1 h2 hn hd
  · rw [decide_eq_false (fun e => hl (by rw [← h1.1, ← h2.1, e]))]
    exact bytes_lens A1 A2 n1 c1 n2 c2 w hl
end Go.Proofs.YtidjajdgphkbbaaRR
