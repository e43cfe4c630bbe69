/-
  Contract of cuts.past.
-/
import Derived.Test.YtlonpimnjjkfpaaSpanMerge
import Derived.LoopTactic
namespace Go.Proofs.Ytlonpimnjjkfpaa
open Go.ChangeShapes Go.WideShapes Go.ChangeAt Go.RowKit

/-- what stands behind the first span: where it lies -/
def behind2 (A : Option Addr) (c : Nat) : Option Addr := if c = 1 then A else A.map (·.add 2)
theorem slice2_next (A : Option Addr) (n c : Nat) (h : 1 ≤ n) (w : World) :
    (Instr.slice 36 (.slice A n c) (some (.int .i64 1)) none none).run Try.prog w = .ok (.slice (behind2 A c) (n - 1) (c - 1)) w := by
  have h1 := run_slice_l (P := Try.prog) w 36 A n c (by kernel_rfl) .i64 1 (by omega) (by omega)
  have h2 : (sizeOf (Try.prog.elem 36)).run Try.prog w = .ok 2 w := by kernel_rfl
  rw [h1, h2]
  simp [sliced, Result.andThen, behind2]
theorem Sps.next {w : World} {B n c : Nat} {A : Option Addr} {L : List (Int × Int)} (h : Sps w B A (n + 1) L) (hc : n + 1 ≤ c) : Sps w B (behind2 A c) n (L.drop 1) := by
  refine ⟨by rw [List.length_drop, h.1]; omega, fun hn => ?_⟩
  obtain ⟨b, off, rfl, hB, hx⟩ := h.2 (by omega)
  refine ⟨b, off + 2, ?_, hB, fun j hj => ?_⟩
  · unfold behind2
    rw [if_neg (by omega)]
    rfl
  · have hj1 : 1 + j < L.length := by simp at hj; omega
    obtain ⟨x1, x2⟩ := hx (1 + j) hj1
    rw [show off + (1 + j) * 2 = off + 2 + j * 2 by omega] at x1 x2
    rw [List.getElem_drop]
    exact ⟨x1, x2⟩

/-- those that end ahead of x are left out -/
def PastTo (M : List (Int × Int)) (x : Int) (B : Nat) (w : World) (e : Ending) (w' : World) : Prop :=
  w = w' ∧ ∃ j n A c, e = .returned (.slice A n c) ∧ n + j = M.length ∧ n ≤ c ∧ Sps w B A n (M.drop j) ∧ (∀ i (hi : i < M.length), i < j → M[i].2 ≤ x) ∧ (∀ hi : j < M.length, x < M[j].2)
set_option maxHeartbeats 1000000 in
theorem past_any (A0 : Option Addr) (n0 c0 B j0 : Nat) (M : List (Int × Int)) (x : Int) (w : World) (h : Sps w B A0 n0 (M.drop j0)) (hj : n0 + j0 = M.length) (hc : n0 ≤ c0) (hM : M.length ≤ 1000000) (h0 : ∀ i (hi : i < M.length), i < j0 → M[i].2 ≤ x) :
    Calls Try.prog 24 #[.slice A0 n0 c0, .int .i64 x] w (PastTo M x B w) := by
  have HS0 := Lib.hid h
  have H0 := Lib.hid h0
  have HC0 := Lib.hid hc
  have HM := Lib.hid hM
  have HJ := Lib.hid hj
  clear h h0 hc hM hj
  go_enter Try.func24, Try.ntmps24
  go_wp2
  go_loopw [0] (fun v wr => ∃ (j n : Nat) (A : Option Addr) (c : Nat), v = .slice A n c ∧ wr = w ∧ Hid (n + j = M.length) ∧ Hid (n ≤ c) ∧ Hid (Sps w B A n (M.drop j)) ∧ Hid (∀ i (hi : i < M.length), i < j → M[i].2 ≤ x)) (fun v _ => (match v with | .slice _ n _ => n | _ => 0))
  case atStart => exact ⟨j0, n0, A0, c0, rfl, rfl, HJ, HC0, HS0, H0⟩
  case round =>
    obtain ⟨j, n, A, c, rfl, rfl, HN, HC, HS, HI⟩ := hrel
    rcases Nat.eq_zero_or_pos n with rfl | hpos
    · go_wp2
      go_ret
      exact ⟨rfl, j, 0, A, c, rfl, HN.out, HC.out, HS.out, HI.out, fun hi => absurd hi (by have := HN.out; omega)⟩
    · obtain ⟨m, rfl⟩ : ∃ m, n = m + 1 := ⟨n - 1, by omega⟩
      obtain ⟨b, off, rfl, hB, hx⟩ := HS.out.2 (by omega)
      have hjl : j < M.length := by have := HN.out; omega
      obtain ⟨x0, x1⟩ := hx 0 (by simp; omega)
      rw [List.getElem_drop] at x0 x1
      simp only [Nat.add_zero, Nat.zero_mul] at x0 x1
      have hM1 : m + 1 ≤ 1000000 := by have := HN.out; have := HM.out; omega
      have HL : Hid (∀ (hi : j < M.length), M[j] = M[j]) := Lib.hid fun _ => rfl
      by_cases hq : M[j].2 ≤ x
      · have HI2 : Hid (∀ i (hi : i < M.length), i < j + 1 → M[i].2 ≤ x) := Lib.hid fun i hi hij => by
          rcases Nat.lt_or_ge i j with h | h
          · exact HI.out i hi h
          · obtain rfl : i = j := by omega
            exact hq
        have hs2 := HS.out.next HC.out
        rw [List.drop_drop] at hs2
        have HS2 := Lib.hid hs2
        have hsl := slice2_next (some ⟨b, off, none⟩) (m + 1) c (by omega)
        have HN2 : Hid (m + (j + 1) = M.length) := Lib.hid (by have := HN.out; omega)
        have HC2 : Hid (m ≤ c - 1) := Lib.hid (by have := HC.out; omega)
        generalize M[j] = p at x0 x1 hq
        clear hx hB hs2
        go_wp2
        go_roundw
        case rel => exact ⟨j + 1, m, _, c - 1, rfl, trivial, HN2, HC2, HS2, HI2⟩
        case measure => simp
      · have HX : Hid (∀ hi : j < M.length, x < M[j].2) := Lib.hid fun _ => by omega
        generalize M[j] = p at x0 x1 hq
        clear hx hB
        go_wp2
        go_ret
        exact ⟨rfl, j, m + 1, _, c, rfl, HN.out, HC.out, HS.out, HI.out, HX.out⟩
end Go.Proofs.Ytlonpimnjjkfpaa
