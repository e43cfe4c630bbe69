/-
  Contract of the document's In (whether a number is among others), alone. (XRefIn has it too, with Sorted.)
-/
import Derived.Test.YtlhkcfhhgcmieaaChecked
import Derived.Test.YtlhkcfhhgcmieaaIntVals
import Derived.LoopTactic
import Derived.Lib.Hide
import Derived.IntWalk
namespace Go.Proofs.Ytlhkcfhhgcmieaa
open Go.ChangeShapes Go.WideShapes Go.ChangeAt Go.RowKit
set_option maxRecDepth 100000

theorem in01_any (A : Option Addr) (n c : Nat) (x : Int) (B : Nat) (l : List Int) (w : World) (h : Vs w B A n (nums .i64 l)) (hn : n ≤ 9223372036854775807) :
    Calls Try.prog 19 #[.slice A n c, .int .i64 x] w fun e w' => e = .returned (.bool (decide (x ∈ l))) ∧ w = w' := by
  have HL : Hid ((nums .i64 l).length = n) := Lib.hid h.1
  have C1 := Lib.hid h.2
  clear h
  go_enter Try.func19, Try.ntmps19
  go_wp2
  go_loopw [9] (fun i wr => ∃ k : Nat, k ≤ n ∧ i = .int .i64 k ∧ Hid (x ∉ l.take k) ∧ wr = w) (fun i _ => n - (intOf i).toNat)
  case atStart => exact ⟨0, by omega, rfl, Lib.hid (by simp), rfl⟩
  case round =>
    obtain ⟨k, hk, rfl, HX, rfl⟩ := hrel
    by_cases hlt : k < n
    · obtain ⟨b1, o1, rfl, hB1, hc1⟩ := C1.out (by omega)
      have hkl : k < (nums .i64 l).length := by rw [HL.out]; exact hlt
      have hkl' : k < l.length := by rw [← nums_length]; exact hkl
      have e1 := hc1 k hkl
      rw [nums_get .i64 l k hkl hkl'] at e1
      obtain ⟨y, hy⟩ : ∃ y, y = l[k] := ⟨_, rfl⟩
      rw [← hy] at e1
      by_cases hyx : y = x
      · have HIN : Hid (decide (x ∈ l) = true) := Lib.hid (decide_eq_true (by rw [← hyx, hy]; exact List.getElem_mem hkl'))
        have ht : (y == x) = true := by simp [hyx]
        clear hc1 C1 HL hy hkl hkl' hyx HX
        go_wp2
        go_ret
        exact ⟨by rw [HIN.out]; rfl, rfl⟩
      · have HX2 : Hid (x ∉ l.take (k + 1)) := Lib.hid (by
          rw [List.take_succ_eq_append_getElem hkl', List.mem_append, ← hy]
          rintro (h | h)
          · exact HX.out h
          · exact hyx (List.mem_singleton.1 h).symm)
        have ht : (y == x) = false := by simp [hyx]
        clear hc1 C1 HL hy hkl hkl' hyx HX
        go_wp2
        go_roundw
        case rel => exact ⟨k + 1, by omega, by go_num, HX2, by first | rfl | trivial⟩
        case measure => simp [intOf]; omega
    · have HIN : Hid (decide (x ∈ l) = false) := Lib.hid (decide_eq_false (by
        have h := HX.out
        rwa [List.take_of_length_le (by have := HL.out; rw [nums_length] at this; omega)] at h))
      go_wp2
      go_ret
      exact ⟨by rw [HIN.out]; rfl, rfl⟩
end Go.Proofs.Ytlhkcfhhgcmieaa
