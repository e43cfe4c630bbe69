/-
  Contract of the document's own look whether two rows of texts are alike, where they are.
-/
import Derived.Test.YtgldgmmljigmdaaVals
import Derived.Test.YtgldgmmljigmdaaTextLower
import Derived.IntWalk
namespace Go.Proofs.Ytgldgmmljigmdaa
open Go.ChangeShapes Go.WideShapes Go.ChangeAt Go.RowKit

/-- a list of texts as values -/
def strs (l : List (List UInt8)) : List Value := l.map fun x => .string (Str x)
theorem strs_length (l : List (List UInt8)) : (strs l).length = l.length := by simp [strs]
theorem strs_get (l : List (List UInt8)) (j : Nat) (h : j < (strs l).length) (h' : j < l.length) : (strs l)[j] = .string (Str l[j]) := by simp [strs]
theorem strs_append (l m : List (List UInt8)) : strs l ++ strs m = strs (l ++ m) := by simp [strs]
theorem strs_one (l : List (List UInt8)) : ∀ u ∈ strs l, u.oneCell' = true := by
  intro u hu
  obtain ⟨x, _, rfl⟩ := List.mem_map.1 hu
  rfl
def NoMore (w : World) (v : Value) (e : Ending) (w' : World) : Prop := e = .returned v ∧ ∃ m, w' = w.drewN m

set_option maxHeartbeats 400000 in
theorem texts_same (A1 A2 : Option Addr) (n c1 c2 B : Nat) (l : List (List UInt8)) (w : World) (h1 : Vs w B A1 n (strs l)) (h2 : Vs w B A2 n (strs l)) (hn : n ≤ 9223372036854775807) :
    Calls Try.prog 21 #[.slice A1 n c1, .slice A2 n c2] w (NoMore w (.bool true)) := by
  have HL : Hid ((strs l).length = n) := Lib.hid h1.1
  have C1 := Lib.hid h1.2
  have C2 := Lib.hid h2.2
  clear h1 h2
  have hne : ((n : Int) != (n : Int)) = false := by simp
  go_enter Try.func21, Try.ntmps21
  go_wp2
  go_loopw [13] (fun i wr => ∃ k m : Nat, k ≤ n ∧ i = .int .i64 k ∧ wr = w.drewN m) (fun i _ => n - (intOf i).toNat)
  case atStart => exact ⟨0, 0, by omega, rfl, rfl⟩
  case round =>
    obtain ⟨k, m, hk, rfl, rfl⟩ := hrel
    clear hne
    by_cases hlt : k < n
    · obtain ⟨b1, o1, rfl, hB1, hc1⟩ := C1.out (by omega)
      obtain ⟨b2, o2, rfl, hB2, hc2⟩ := C2.out (by omega)
      have hkl : k < (strs l).length := by rw [HL.out]; exact hlt
      have hkl' : k < l.length := by rw [← strs_length]; exact hkl
      have e1 := hc1 k hkl
      have e2 := hc2 k hkl
      rw [strs_get l k hkl hkl'] at e1 e2
      obtain ⟨x, hx⟩ : ∃ x, x = Str l[k] := ⟨_, rfl⟩
      rw [← hx] at e1 e2
      have ht : (x.toList != x.toList) = false := by simp
      clear hc1 hc2 C1 C2 HL hx hkl hkl'
      go_wp2
      go_quiet (fail)
      go_wp2
      go_roundw
      case rel => exact ⟨k + 1, _, by omega, by go_num, rfl⟩
      case measure => simp [intOf]; omega
    · go_wp2
      go_ret
      exact ⟨rfl, m, rfl⟩
end Go.Proofs.Ytgldgmmljigmdaa
