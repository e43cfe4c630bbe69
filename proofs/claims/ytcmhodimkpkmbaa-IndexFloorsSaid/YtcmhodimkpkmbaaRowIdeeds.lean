/-
  What comes in, as the row's step opens it: a deed on an index (a struct of nine cells), a slice of such.
-/
import Derived.Test.YtcmhodimkpkmbaaIxDeeds
import Derived.Test.YtcmhodimkpkmbaaRowBytes
import Derived.WalkKit
import Derived.ProofKit
import Derived.OpenShut
import Derived.ChangeArms
import Derived.ChangeSame
import Derived.ChangeSlices
import Derived.Deep.Slices
import Derived.Deep.Strs
import Derived.Lib.SmallJoins
namespace Go.Proofs.Ytcmhodimkpkmbaa
open Go.ChangeShapes Go.WideShapes Go.ChangeAt Go.RowKit Go.Deep
set_option maxRecDepth 100000

theorem cellsDeed19 : Try.prog.cellsOf 28 = 9 := by kernel_rfl
theorem cellsBind19 : Try.prog.cellsOf 24 = 5 := by kernel_rfl
theorem cellsAddr19 : Try.prog.cellsOf 26 = 2 := by kernel_rfl
theorem cellsInt19 : Try.prog.cellsOf 3 = 1 := by kernel_rfl
theorem cellsString19 : Try.prog.cellsOf 9 = 1 := by kernel_rfl
theorem ilist_of {α : Type} {R : Nat → α → Prop} : ∀ (n : Nat), (∀ i, i < n → ∃ p, R i p) → ∃ L : List α, L.length = n ∧ ∀ j (h : j < L.length), R j L[j]
  | 0, _ => ⟨[], rfl, fun j h => absurd h (by simp)⟩
  | n + 1, h => by
    obtain ⟨L, hl, hr⟩ := ilist_of n fun i hi => h i (by omega)
    obtain ⟨p, hp⟩ := h n (by omega)
    refine ⟨L ++ [p], by simp [hl], fun j hj => ?_⟩
    by_cases e : j < L.length
    · rw [List.getElem_append_left e]; exact hr j e
    · have : j = n := by simp at hj; omega
      subst this
      rw [List.getElem_append_right (by omega)]
      simpa [hl] using hp
section
variable {H : Type} {enc : TypeId × Value → H} {W : World}
/-- a deed's nine cells -/
theorem ideed_of {base n : Nat} {held : Bool} {cs : List Value} {x : DataW H × List MemPlace} (hl : cs.length = 9)
    (h : DataW.trod enc Try.prog W base (fun _ => true) held n 28 cs = some x) : ∃ d : Ix.Deed, cs = ddC d := by
  obtain ⟨xs, m, _, _, _, hlen, hg⟩ := DataW.trod_struct Try.underlying28 h
  match xs, hlen with
  | [y0, y1, y2, y3], _ =>
    match cs, hl with
    | [c0, c1, c2, c3, c4, c5, c6, c7, c8], _ =>
      have g0 := hg 0 _ rfl
      have g1 := hg 1 _ rfl
      have g2 := hg 2 _ rfl
      have g3 := hg 3 _ rfl
      change DataW.trod enc Try.prog W base (fun _ => true) held m 3 (List.take (Try.prog.cellsOf 3) (List.drop 0 [c0, c1, c2, c3, c4, c5, c6, c7, c8])) = some y0 at g0
      change DataW.trod enc Try.prog W base (fun _ => true) held m 24 (List.take (Try.prog.cellsOf 24) (List.drop 1 [c0, c1, c2, c3, c4, c5, c6, c7, c8])) = some y1 at g1
      change DataW.trod enc Try.prog W base (fun _ => true) held m 3 (List.take (Try.prog.cellsOf 3) (List.drop 6 [c0, c1, c2, c3, c4, c5, c6, c7, c8])) = some y2 at g2
      change DataW.trod enc Try.prog W base (fun _ => true) held m 26 (List.take (Try.prog.cellsOf 26) (List.drop 7 [c0, c1, c2, c3, c4, c5, c6, c7, c8])) = some y3 at g3
      rw [cellsInt19] at g0 g2
      rw [cellsBind19] at g1
      rw [cellsAddr19] at g3
      obtain ⟨a0, e0, -, -⟩ := DataW.trod_int Try.underlying3 g0
      obtain ⟨a6, e6, -, -⟩ := DataW.trod_int Try.underlying3 g2
      obtain rfl : c0 = .int .i64 a0 := by simpa using e0
      obtain rfl : c6 = .int .i64 a6 := by simpa using e6
      obtain ⟨bs, m1, _, _, _, blen, bg⟩ := DataW.trod_struct Try.underlying24 g1
      obtain ⟨ays, m2, _, _, _, alen, ag⟩ := DataW.trod_struct Try.underlying26 g3
      match bs, blen with
      | [z0, z1, z2, z3, z4], _ =>
        match ays, alen with
        | [u0, u1], _ =>
          have b0 := bg 0 _ rfl
          have b1 := bg 1 _ rfl
          have b2 := bg 2 _ rfl
          have b3 := bg 3 _ rfl
          have b4 := bg 4 _ rfl
          have d0 := ag 0 _ rfl
          have d1 := ag 1 _ rfl
          change DataW.trod enc Try.prog W base (fun _ => true) held m1 3 (List.take (Try.prog.cellsOf 3) (List.drop 0 [c1, c2, c3, c4, c5])) = some z0 at b0
          change DataW.trod enc Try.prog W base (fun _ => true) held m1 3 (List.take (Try.prog.cellsOf 3) (List.drop 1 [c1, c2, c3, c4, c5])) = some z1 at b1
          change DataW.trod enc Try.prog W base (fun _ => true) held m1 9 (List.take (Try.prog.cellsOf 9) (List.drop 2 [c1, c2, c3, c4, c5])) = some z2 at b2
          change DataW.trod enc Try.prog W base (fun _ => true) held m1 3 (List.take (Try.prog.cellsOf 3) (List.drop 3 [c1, c2, c3, c4, c5])) = some z3 at b3
          change DataW.trod enc Try.prog W base (fun _ => true) held m1 3 (List.take (Try.prog.cellsOf 3) (List.drop 4 [c1, c2, c3, c4, c5])) = some z4 at b4
          change DataW.trod enc Try.prog W base (fun _ => true) held m2 3 (List.take (Try.prog.cellsOf 3) (List.drop 0 [c7, c8])) = some u0 at d0
          change DataW.trod enc Try.prog W base (fun _ => true) held m2 3 (List.take (Try.prog.cellsOf 3) (List.drop 1 [c7, c8])) = some u1 at d1
          rw [cellsInt19] at b0 b1 b3 b4 d0 d1
          rw [cellsString19] at b2
          obtain ⟨a1, e1, -, -⟩ := DataW.trod_int Try.underlying3 b0
          obtain ⟨a2, e2, -, -⟩ := DataW.trod_int Try.underlying3 b1
          obtain ⟨a3, e3, -, -⟩ := DataW.trod_string Try.underlying9 b2
          obtain ⟨a4, e4, -, -⟩ := DataW.trod_int Try.underlying3 b3
          obtain ⟨a5, e5, -, -⟩ := DataW.trod_int Try.underlying3 b4
          obtain ⟨a7, e7, -, -⟩ := DataW.trod_int Try.underlying3 d0
          obtain ⟨a8, e8, -, -⟩ := DataW.trod_int Try.underlying3 d1
          obtain rfl : c1 = .int .i64 a1 := by simpa using e1
          obtain rfl : c2 = .int .i64 a2 := by simpa using e2
          obtain rfl : c3 = .string a3 := by simpa using e3
          obtain rfl : c4 = .int .i64 a4 := by simpa using e4
          obtain rfl : c5 = .int .i64 a5 := by simpa using e5
          obtain rfl : c7 = .int .i64 a7 := by simpa using e7
          obtain rfl : c8 = .int .i64 a8 := by simpa using e8
          exact ⟨⟨a0, ⟨a1, a2, a3, a4, a5⟩, a6, (a7, a8)⟩, rfl⟩
theorem open_ideed {base : Nat} {held : Bool} {r : Reach} {b0 : Nat} {v : Value} {d : DataW H} {p : List MemPlace} (hv : Value.okWide Try.prog W r b0 28 v) (h : DataW.Trod enc Try.prog W base (fun _ => true) held 28 v d p) :
    ∃ x : Ix.Deed, v = .agg (ddC x).toArray := by
  obtain ⟨cs, rfl, hsz⟩ := okWide_struct Try.underlying28 hv
  obtain ⟨fuel, hf⟩ := h
  have hl : cs.toList.length = 9 := by rw [Array.length_toList, hsz]; exact cellsDeed19
  obtain ⟨x, hx⟩ := ideed_of (cs := cs.toList) hl (by simpa [Value.cells] using hf)
  exact ⟨x, by rw [← hx]⟩
theorem open_ideeds {n : Nat} {held : Bool} {A : Option Addr} {len cap : Nat} {x : DataW H × List MemPlace} (h : DataW.trod enc Try.prog W 0 (fun _ => true) held n 22 [.slice A len cap] = some x) :
    ∃ L : List Ix.Deed, Dv W W.heap.size A len L := by
  rcases open_slice Try.underlying22 h with ⟨hcs, rfl⟩ | ⟨a, l, c, m, n', D, Pl, hcs, _, hlc, hm, hmm, rfl, hi⟩
  · simp at hcs
    obtain ⟨rfl, rfl, rfl⟩ := hcs
    exact ⟨[], rfl, fun h => absurd h (by omega)⟩
  · simp at hcs
    obtain ⟨rfl, rfl, rfl⟩ := hcs
    simp only [if_true] at hmm
    subst hmm
    by_cases hl0 : len = 0
    · subst hl0
      exact ⟨[], rfl, fun h => absurd h (by omega)⟩
    obtain ⟨b, off, spot⟩ := a
    have hsp : spot = none := by
      obtain ⟨cs', hc, _⟩ := hi 0 (by omega)
      rw [cellsDeed19] at hc
      obtain ⟨_, hl3, hcell⟩ := World.cells?_some hc
      have h0 := hcell 0 (by omega)
      rw [List.getElem?_eq_getElem (by omega)] at h0
      simpa [Addr.add] using World.cell?_spot h0
    subst hsp
    have ea (j k : Nat) : ((⟨b, off, none⟩ : Addr).add j).add k = ⟨b, off + j + k, none⟩ := by
      simp only [Addr.add]
      split <;> split <;> simp_all
    have hR : ∀ i, i < len → ∃ d : Ix.Deed, ∀ k, k < 9 → W.cell? ⟨b, off + i * 9 + k, none⟩ = (ddC d)[k]? := by
      intro i hil
      obtain ⟨cs', hc, ht⟩ := hi i (by omega)
      rw [cellsDeed19] at hc
      obtain ⟨_, hl3, hcell⟩ := World.cells?_some hc
      obtain ⟨d, rfl⟩ := ideed_of (W := W) hl3 ht
      exact ⟨d, fun k hk => by rw [← ea]; exact hcell k hk⟩
    obtain ⟨L, hL, hP⟩ := ilist_of len hR
    refine ⟨L, by rw [ddV_length, hL], fun h0 => ⟨b, off, rfl, ?_, fun j hj => ?_⟩⟩
    · refine World.block_lt_of_cell? W _ (u := .int .i64 L[0].kind) ((hP 0 (by omega) 0 (by omega)).trans rfl)
    · rw [ddV_length] at hj
      have hq : j / 9 < L.length := by omega
      have e := hP (j / 9) hq (j % 9) (by omega)
      rw [show off + j / 9 * 9 + j % 9 = off + j by omega, ← ddV_get L (j / 9) hq (j % 9) (by omega), show j / 9 * 9 + j % 9 = j by omega] at e
      rw [e, List.getElem?_eq_getElem (by rw [ddV_length]; exact hj)]
end
end Go.Proofs.Ytcmhodimkpkmbaa
