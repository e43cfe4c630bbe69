/-
  What comes in, as the row's step opens it: a slice of deeds on a ring (structs of two ints).
-/
import Derived.Test.YtlhkcfhhgcmieaaCkDoesW
import Derived.Test.YtlhkcfhhgcmieaaRowBytes
import Derived.WalkKit
import Derived.ProofKit
import Derived.OpenShut
import Derived.ChangeArms
import Derived.ChangeSame
import Derived.ChangeSlices
import Derived.Deep.Slices
import Derived.Lib.SmallJoins
namespace Go.Proofs.Ytlhkcfhhgcmieaa
open Go.ChangeShapes Go.WideShapes Go.ChangeAt Go.RowKit Go.Deep
set_option maxRecDepth 100000

theorem cellsDeed24 : Try.prog.cellsOf 32 = 2 := by kernel_rfl
theorem cellsInt24 : Try.prog.cellsOf 3 = 1 := by kernel_rfl
theorem clist_of {α : Type} {R : Nat → α → Prop} : ∀ (n : Nat), (∀ i, i < n → ∃ p, R i p) → ∃ L : List α, L.length = n ∧ ∀ j (h : j < L.length), R j L[j]
  | 0, _ => ⟨[], rfl, fun j h => absurd h (by simp)⟩
  | n + 1, h => by
    obtain ⟨L, hl, hr⟩ := clist_of n fun i hi => h i (by omega)
    obtain ⟨p, hp⟩ := h n (by omega)
    refine ⟨L ++ [p], by simp [hl], fun j hj => ?_⟩
    by_cases e : j < L.length
    · rw [List.getElem_append_left e]; exact hr j e
    · have : j = n := by simp at hj; omega
      subst this
      rw [List.getElem_append_right (by omega)]
      simpa [hl] using hp
section
variable {H : Type} {enc : TypeId × Value → H} {W : World}
/-- a deed's two cells -/
theorem cdeed_of {base n : Nat} {held : Bool} {cs : List Value} {x : DataW H × List MemPlace} (hl : cs.length = 2)
    (h : DataW.trod enc Try.prog W base (fun _ => true) held n 32 cs = some x) : ∃ d : Int × Int, cs = cdC d := by
  obtain ⟨xs, m, _, _, _, hlen, hg⟩ := DataW.trod_struct Try.underlying32 h
  match xs, hlen with
  | [y0, y1], _ =>
    match cs, hl with
    | [c0, c1], _ =>
      have g0 := hg 0 _ rfl
      have g1 := hg 1 _ rfl
      change DataW.trod enc Try.prog W base (fun _ => true) held m 3 (List.take (Try.prog.cellsOf 3) (List.drop 0 [c0, c1])) = some y0 at g0
      change DataW.trod enc Try.prog W base (fun _ => true) held m 3 (List.take (Try.prog.cellsOf 3) (List.drop 1 [c0, c1])) = some y1 at g1
      rw [cellsInt24] at g0 g1
      obtain ⟨a0, e0, -, -⟩ := DataW.trod_int Try.underlying3 g0
      obtain ⟨a1, e1, -, -⟩ := DataW.trod_int Try.underlying3 g1
      obtain rfl : c0 = .int .i64 a0 := by simpa using e0
      obtain rfl : c1 = .int .i64 a1 := by simpa using e1
      exact ⟨(a0, a1), rfl⟩
theorem open_cdeeds {n : Nat} {held : Bool} {A : Option Addr} {len cap : Nat} {x : DataW H × List MemPlace} (h : DataW.trod enc Try.prog W 0 (fun _ => true) held n 22 [.slice A len cap] = some x) :
    ∃ L : List (Int × Int), Cds W W.heap.size A len L := by
  rcases open_slice Try.underlying22 h with ⟨hcs, rfl⟩ | ⟨a, l, c, m, n', D, Pl, hcs, _, hlc, hm, hmm, rfl, hi⟩
  · simp at hcs
    obtain ⟨rfl, rfl, rfl⟩ := hcs
    exact ⟨[], rfl, fun h => absurd h (by omega)⟩
  · simp at hcs
    obtain ⟨rfl, rfl, rfl⟩ := hcs
    simp only [if_true] at hmm
    subst hmm
    by_cases hl0 : len = 0
    · subst hl0
      exact ⟨[], rfl, fun h => absurd h (by omega)⟩
    obtain ⟨b, off, spot⟩ := a
    have hsp : spot = none := by
      obtain ⟨cs', hc, _⟩ := hi 0 (by omega)
      rw [cellsDeed24] at hc
      obtain ⟨_, hl3, hcell⟩ := World.cells?_some hc
      have h0 := hcell 0 (by omega)
      rw [List.getElem?_eq_getElem (by omega)] at h0
      simpa [Addr.add] using World.cell?_spot h0
    subst hsp
    have ea (j k : Nat) : ((⟨b, off, none⟩ : Addr).add j).add k = ⟨b, off + j + k, none⟩ := by
      simp only [Addr.add]
      split <;> split <;> simp_all
    have hR : ∀ i, i < len → ∃ d : Int × Int, ∀ k, k < 2 → W.cell? ⟨b, off + i * 2 + k, none⟩ = (cdC d)[k]? := by
      intro i hil
      obtain ⟨cs', hc, ht⟩ := hi i (by omega)
      rw [cellsDeed24] at hc
      obtain ⟨_, hl3, hcell⟩ := World.cells?_some hc
      obtain ⟨d, rfl⟩ := cdeed_of (W := W) hl3 ht
      exact ⟨d, fun k hk => by rw [← ea]; exact hcell k hk⟩
    obtain ⟨L, hL, hP⟩ := clist_of len hR
    refine ⟨L, by rw [cdV_length, hL], fun h0 => ⟨b, off, rfl, ?_, fun j hj => ?_⟩⟩
    · exact World.block_lt_of_cell? W _ (u := .int .i64 L[0].1) ((hP 0 (by omega) 0 (by omega)).trans rfl)
    · rw [cdV_length] at hj
      obtain ⟨q, r, rfl, hr⟩ : ∃ q r, j = q * 2 + r ∧ r < 2 := ⟨j / 2, j % 2, by omega, by omega⟩
      have hq : q < L.length := by omega
      have e := hP q hq r hr
      rw [← Nat.add_assoc, e, ← List.getElem?_eq_getElem]
      obtain ⟨g1, g2⟩ := cdV_get L q hq
      rcases (by omega : r = 0 ∨ r = 1) with rfl | rfl
      · rw [Nat.add_zero, g1]
        rfl
      · rw [g2]
        rfl
end
end Go.Proofs.Ytlhkcfhhgcmieaa
