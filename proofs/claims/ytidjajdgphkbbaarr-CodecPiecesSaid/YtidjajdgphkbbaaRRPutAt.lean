/-
  nums.Put, as a caller's walk takes it: the block named by a letter; a row that is just full, as a row of the call's own.
-/
import Derived.Test.YtidjajdgphkbbaaRRNumsPut
namespace Go.Proofs.YtidjajdgphkbbaaRR
open Go.ChangeShapes Go.WideShapes Go.ChangeAt Go.RowKit
set_option maxRecDepth 100000

/-- a row that is just full: a row of the call's own -/
theorem row_own {w : World} {g : Nat} {T : TypeId} {L : List UInt8} (h : Row T w g L) {n : Nat} (hn : L.length = n) (hl : n ≤ 1000000000) : w.ownsRow g T 1 (.slice (some ⟨g, 0, none⟩) n n) n (vals L) := by
  refine ⟨by rw [vals_length, hn, Nat.mul_one], .inr ⟨g, n, (vals L).toArray, rfl, Nat.le_refl _, h, Nat.le_refl _, by unfold maxLen; omega, by simp [vals, hn], ?_⟩⟩
  rw [List.take_of_length_le (by simp [vals, hn])]
theorem numsPut_at (A : Option Addr) (n c N k nk : Nat) (kI : Int) (l : List UInt8) (B : Nat) (w : World) (hs : Bs w B A n l) (hB : B ≤ w.heap.size) (hn : n ≤ 1000000000) (hk : k ≤ 8) (hN : N < 18446744073709551616) (hkI : (k : Int) = kI) (hnk : n + k = nk) :
    Calls Try.prog 14 #[.slice A n c, .int .u64 N, .int .i64 kI] w fun e w' => ∃ g, e = .returned (.slice (some ⟨g, 0, none⟩) nk nk) ∧ g = w.heap.size ∧ Row 5 w' g (l ++ Fm.be N k) ∧ Below w.heap.size w w' := by
  subst hkI hnk
  refine (numsPut_any A n c N k l B w hs hB hn hk hN).mono ?_
  rintro e w' ⟨rfl, hr, hb⟩
  exact ⟨_, rfl, rfl, hr, hb⟩
end Go.Proofs.YtidjajdgphkbbaaRR
