/-
  The example of layer 13, and the program's own Put, as the walks take them.
  Pages of bytes, and what Pad gives, as the walks take it.
  The document's Pages: how many pages a record takes.
-/
import Derived.Test.YtndbjdnfibpicaaRChecked
import Derived.Test.YtndbjdnfibpicaaRMBytes
import Derived.Test.YtndbjdnfibpicaaRMFrame
import Derived.Lib.Hide
import Derived.WalkKit
import Derived.ProofKit
import Derived.LoopTactic
import Derived.IntWalk
import Derived.Tactics
import Derived.ChangeArms
section
namespace Go.Proofs.YtndbjdnfibpicaaR
open Go.ChangeShapes Go.WideShapes Go.ChangeAt Go.RowKit

/-- Put of a record that has not too many bytes -/
def Puts13 : Prop := ∀ (kind : UInt8) (seq : Nat) (A : Option Addr) (n c : Nat) (l : List UInt8) (B : Nat) (w : World), Bs w B A n l → B ≤ w.heap.size → n ≤ c → n ≤ 4096 → seq < 18446744073709551616 → Calls Try.prog 76 #[.agg #[.int .u8 (kind.toNat : Int), .int .u64 (seq : Int), .slice A n c]] w fun e w' =>
  ∃ A' c', e = .returned (.tuple #[.slice A' (n + 16) c', .int .i64 0]) ∧ Bs w' w'.heap.size A' (n + 16) (Fm.frame kind seq l) ∧ n + 16 ≤ c' ∧ Below w.heap.size w w'
/-- Put of a record that has too many -/
def PutsLong13 : Prop := ∀ (kind : UInt8) (seq : Nat) (A : Option Addr) (n c : Nat) (w : World), 4096 < n → Calls Try.prog 76 #[.agg #[.int .u8 (kind.toNat : Int), .int .u64 (seq : Int), .slice A n c]] w fun e w' =>
  ∃ A' c', e = .returned (.tuple #[.slice A' 0 c', .int .i64 10]) ∧ Below w.heap.size w w'
end Go.Proofs.YtndbjdnfibpicaaR
end
section
namespace Go.Proofs.YtndbjdnfibpicaaR
open Go.ChangeShapes Go.WideShapes Go.ChangeAt Go.RowKit

/-- a page of bytes, the last one filled up -/
def Fm.page (l : List UInt8) (s i : Nat) : List UInt8 := (List.range s).map fun k => l.getD (i * s + k) 255
theorem Fm.page_length (l : List UInt8) (s i : Nat) : (Fm.page l s i).length = s := by simp [Fm.page]
theorem Fm.page_get (l : List UInt8) (s i k : Nat) (h : k < (Fm.page l s i).length) : (Fm.page l s i)[k] = l.getD (i * s + k) 255 := by simp [Fm.page]
/-- a row of pages lies in a world -/
def PadsIn (w : World) (A : Option Addr) (K s : Nat) (l : List UInt8) : Prop :=
  ∀ i, i < K → ∃ b off, A = some ⟨b, off, none⟩ ∧ ∃ Ai ci, w.cell? ⟨b, off + i, none⟩ = some (.slice Ai s ci) ∧ Bs w w.heap.size Ai s (Fm.page l s i)
def Pads13 : Prop := ∀ (A : Option Addr) (n c : Nat) (l : List UInt8) (B : Nat) (w : World) (s : Nat), Bs w B A n l → B ≤ w.heap.size → n ≤ c → n ≤ 3000 → 1 ≤ s → s ≤ 4096 → Calls Try.prog 77 #[.slice A n c, .int .i64 (s : Int)] w fun e w' =>
  ∃ A' c', e = .returned (.slice A' ((n + s - 1) / s) c') ∧ PadsIn w' A' ((n + s - 1) / s) s l ∧ Below w.heap.size w w'
def PadsNone13 : Prop := ∀ (A : Option Addr) (n c : Nat) (l : List UInt8) (B : Nat) (w : World) (size : Int), Bs w B A n l → B ≤ w.heap.size → n ≤ c → n ≤ 3000 → (size < 1 ∨ 4096 < size) → Calls Try.prog 77 #[.slice A n c, .int .i64 size] w fun e w' =>
  ∃ A' c', e = .returned (.slice A' 0 c') ∧ Below w.heap.size w w'
end Go.Proofs.YtndbjdnfibpicaaR
end
section
namespace Go.Proofs.YtndbjdnfibpicaaR
open Go.RowKit
set_option maxRecDepth 100000

def Fm.pages (n size : Nat) : Nat := (n + 16 + size - 1) / size
theorem Fm.pages_iff {n size k : Nat} (h : 1 ≤ size) : k < Fm.pages n size ↔ k * size < n + 16 := by
  unfold Fm.pages
  rw [Nat.lt_iff_add_one_le, Nat.le_div_iff_mul_le (by omega), Nat.succ_mul]
  omega
theorem refPages_any (n size : Nat) (w : World) (hn : n ≤ 4096) (h1 : 1 ≤ size) (h2 : size ≤ 9223372036854775807) :
    Calls Try.prog 50 #[.int .i64 n, .int .i64 size] w fun e w' => e = .returned (.int .i64 (Fm.pages n size : Nat)) ∧ w = w' := by
  have hw1 : IntKind.i64.wrap ((n : Int) + 16) = ((n + 16 : Nat) : Int) := by rw [IntWalk.i64_in _ (by omega)]; simp
  have HI := Lib.hid (fun k => Fm.pages_iff (n := n) (k := k) h1)
  obtain ⟨p, hp⟩ : ∃ p, p = Fm.pages n size := ⟨_, rfl⟩
  rw [← hp] at HI ⊢
  have hp2 : p ≤ 4112 := by
    rcases Nat.lt_or_ge 4112 p with h | h
    · have h3 := (HI.out 4112).1 h
      have h4 : 4112 * 1 ≤ 4112 * size := Nat.mul_le_mul_left _ h1
      omega
    · exact h
  clear hp
  go_enter Try.func50, Try.ntmps50
  go_wp2
  go_loopw [5] (fun i wr => ∃ k : Nat, k ≤ p ∧ i = .int .i64 k ∧ wr = w) (fun i _ => p - (intOf i).toNat)
  case atStart => exact ⟨0, Nat.zero_le _, rfl, rfl⟩
  case round =>
    obtain ⟨k, hk, rfl, rfl⟩ := hrel
    have hks : k * size ≤ 9223372036854775807 := by
      rcases Nat.eq_zero_or_pos k with h | h
      · rw [h]; omega
      · have h3 := (HI.out (k - 1)).1 (by omega)
        have h4 : k * size = (k - 1) * size + size := by
          conv => lhs; rw [show k = k - 1 + 1 by omega, Nat.succ_mul]
        rcases Nat.lt_or_ge (n + 16) size with h5 | h5
        · have : k - 1 = 0 := by
            rcases Nat.eq_zero_or_pos (k - 1) with h6 | h6
            · exact h6
            · have : 1 * size ≤ (k - 1) * size := Nat.mul_le_mul_right _ h6
              omega
          rw [this] at h4
          omega
        · omega
    have hw2 : IntKind.i64.wrap ((k : Int) * (size : Int)) = ((k * size : Nat) : Int) := by rw [IntWalk.i64_in _ (by rw [← Int.natCast_mul]; omega)]; simp
    by_cases hlt : k < p
    · have h3 := (HI.out k).1 hlt
      have hd : decide (((k * size : Nat) : Int) < ((n + 16 : Nat) : Int)) = true := decide_eq_true (by omega)
      generalize k * size = ks at *
      go_wp2
      go_roundw
      case rel => exact ⟨k + 1, by omega, by go_num, by first | rfl | trivial⟩
      case measure => simp [intOf]; omega
    · obtain rfl : k = p := by omega
      have h3 : ¬ k * size < n + 16 := fun h => hlt ((HI.out k).2 h)
      have hd : decide (((k * size : Nat) : Int) < ((n + 16 : Nat) : Int)) = false := decide_eq_false (by omega)
      generalize k * size = ks at *
      go_wp2
      go_ret
      exact ⟨rfl, rfl⟩
end Go.Proofs.YtndbjdnfibpicaaR
end
