/-
  Contract of the document's own look whether two rows of numbers are alike, where they are.
-/
import Derived.Test.YtlhkcfhhgcmieaaChecked
import Derived.Test.YtlhkcfhhgcmieaaIntVals
import Derived.LoopTactic
import Derived.Deep.QuietTactic
import Derived.BigQuiet
import Derived.Lib.Hide
import Derived.IntWalk
namespace Go.Proofs.Ytlhkcfhhgcmieaa
open Go.ChangeShapes Go.WideShapes Go.ChangeAt Go.RowKit

def NoMoreI (w : World) (v : Value) (e : Ending) (w' : World) : Prop := e = .returned v ∧ ∃ m, w' = w.drewN m

set_option maxHeartbeats 400000 in
theorem ints_same (A1 A2 : Option Addr) (n c1 c2 B : Nat) (l : List Int) (w : World) (h1 : Vs w B A1 n (nums .i64 l)) (h2 : Vs w B A2 n (nums .i64 l)) (hn : n ≤ 9223372036854775807) :
    Calls Try.prog 15 #[.slice A1 n c1, .slice A2 n c2] w (NoMoreI w (.bool true)) := by
  have HL : Hid ((nums .i64 l).length = n) := Lib.hid h1.1
  have C1 := Lib.hid h1.2
  have C2 := Lib.hid h2.2
  clear h1 h2
  have hne : ((n : Int) != (n : Int)) = false := by simp
  go_enter Try.func15, Try.ntmps15
  go_wp2
  go_loopw [13] (fun i wr => ∃ k m : Nat, k ≤ n ∧ i = .int .i64 k ∧ wr = w.drewN m) (fun i _ => n - (intOf i).toNat)
  case atStart => exact ⟨0, 0, by omega, rfl, rfl⟩
  case round =>
    obtain ⟨k, m, hk, rfl, rfl⟩ := hrel
    clear hne
    by_cases hlt : k < n
    · obtain ⟨b1, o1, rfl, hB1, hc1⟩ := C1.out (by omega)
      obtain ⟨b2, o2, rfl, hB2, hc2⟩ := C2.out (by omega)
      have hkl : k < (nums .i64 l).length := by rw [HL.out]; exact hlt
      have hkl' : k < l.length := by rw [← nums_length]; exact hkl
      have e1 := hc1 k hkl
      have e2 := hc2 k hkl
      rw [nums_get .i64 l k hkl hkl'] at e1 e2
      obtain ⟨x, hx⟩ : ∃ x, x = l[k] := ⟨_, rfl⟩
      rw [← hx] at e1 e2
      have ht : (x != x) = false := by simp
      clear hc1 hc2 C1 C2 HL hx hkl hkl'
      go_wp2
      go_quiet (fail)
      go_wp2
      go_roundw
      case rel => exact ⟨k + 1, _, by omega, by go_num, rfl⟩
      case measure => simp [intOf]; omega
    · go_wp2
      go_ret
      exact ⟨rfl, m, rfl⟩
end Go.Proofs.Ytlhkcfhhgcmieaa
