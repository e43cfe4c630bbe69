/-
  Slices of bytes, cut: where they lie, what they read.
-/
import Derived.Test.YtidjajdgphkbbaaRRBytes
import Derived.Test.YtidjajdgphkbbaaRRChecked
import Derived.KernelRfl
namespace Go.Proofs.YtidjajdgphkbbaaRR
open Go.RowKit

theorem map_add0 (A : Option Addr) : A.map (·.add 0) = A := by
  cases A with
  | none => rfl
  | some a => obtain ⟨b, o, q⟩ := a; cases q <;> simp [Addr.add]
/-- what stands behind the first k bytes: where it lies -/
def behindN (A : Option Addr) (c k : Nat) : Option Addr := if c = k then A else A.map (·.add k)
theorem cut_pre (A : Option Addr) (n c k : Nat) (h : k ≤ c) (w : World) :
    (Instr.slice 22 (.slice A n c) none (some (.int .i64 (k : Int))) none).run Try.prog w = .ok (.slice A k c) w := by
  have h1 := run_slice_h (P := Try.prog) w 22 A n c (by kernel_rfl) .i64 (k : Int) (by omega) (by omega)
  have h2 : (sizeOf (Try.prog.elem 22)).run Try.prog w = .ok 1 w := by kernel_rfl
  rw [h1, h2]
  simp [sliced, Result.andThen, map_add0]
theorem cut_mid (A : Option Addr) (n c j k : Nat) (h : j ≤ k) (hk : k ≤ c) (w : World) :
    (Instr.slice 22 (.slice A n c) (some (.int .i64 (j : Int))) (some (.int .i64 (k : Int))) none).run Try.prog w = .ok (.slice (behindN A c j) (k - j) (c - j)) w := by
  have h1 := run_slice_lh (P := Try.prog) w 22 A n c (by kernel_rfl) .i64 .i64 (j : Int) (k : Int) (by omega) (by omega) (by omega)
  have h2 : (sizeOf (Try.prog.elem 22)).run Try.prog w = .ok 1 w := by kernel_rfl
  rw [h1, h2]
  simp [sliced, Result.andThen, behindN]
theorem Bs.mid {w : World} {B n c j k : Nat} {A : Option Addr} {l : List UInt8} (h : Bs w B A n l) (hj : j ≤ k) (hk : k ≤ n) (hc : n ≤ c) : Bs w B (behindN A c j) (k - j) ((l.drop j).take (k - j)) :=
  (h.back (k := j) (by omega) hc).front (by omega)
end Go.Proofs.YtidjajdgphkbbaaRR
