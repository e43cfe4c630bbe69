/-
  A slice of spans that came in, as the row's step opens it, read as a list.
-/
import Derived.Test.YtlonpimnjjkfpaaSpans
import Derived.Test.YtlonpimnjjkfpaaRowSpan
import Derived.ChangeSlices
import Derived.Deep.Slices
namespace Go.Proofs.Ytlonpimnjjkfpaa
open Go.ChangeShapes Go.WideShapes Go.ChangeAt Go.RowKit Go.Deep

theorem list_ofS {α : Type} {R : Nat → α → Prop} : ∀ (n : Nat), (∀ i, i < n → ∃ p, R i p) → ∃ L : List α, L.length = n ∧ ∀ j (h : j < L.length), R j L[j]
  | 0, _ => ⟨[], rfl, fun j h => absurd h (by simp)⟩
  | n + 1, h => by
    obtain ⟨L, hl, hr⟩ := list_ofS n fun i hi => h i (by omega)
    obtain ⟨p, hp⟩ := h n (by omega)
    refine ⟨L ++ [p], by simp [hl], fun j hj => ?_⟩
    by_cases e : j < L.length
    · rw [List.getElem_append_left e]; exact hr j e
    · have : j = n := by simp at hj; omega
      subst this
      rw [List.getElem_append_right (by omega)]
      simpa [hl] using hp
/-- a span's numbers fit their kind -/
def SpanWf (p : Int × Int) : Prop := (Lit.int .i64 p.1).wf = true ∧ (Lit.int .i64 p.2).wf = true
section
variable {H : Type} {enc : TypeId × Value → H} {W : World}
/-- one span's two cells -/
theorem span_of {base n : Nat} {held : Bool} {b off : Nat} {cs : List Value} {x : DataW H × List MemPlace} (hc : ∀ i, i < 2 → W.cell? ⟨b, off + i, none⟩ = cs[i]?) (hl : cs.length = 2)
    (h : DataW.trod enc Try.prog W base (fun _ => true) held n 23 cs = some x) :
    ∃ p : Int × Int, W.cell? ⟨b, off, none⟩ = some (.int .i64 p.1) ∧ W.cell? ⟨b, off + 1, none⟩ = some (.int .i64 p.2) ∧ SpanWf p := by
  obtain ⟨z0, z1, m2, rfl, _, u0, u1⟩ := trod_struct2 Try.underlying23 h
  match cs, hl with
  | [c0, c1], _ =>
    change DataW.trod enc Try.prog W base (fun _ => true) held m2 3 (List.take (Try.prog.cellsOf 3) (List.drop 0 [c0, c1])) = some z0 at u0
    change DataW.trod enc Try.prog W base (fun _ => true) held m2 3 (List.take (Try.prog.cellsOf 3) (List.drop 1 [c0, c1])) = some z1 at u1
    rw [cells3] at u0 u1
    obtain ⟨pa, ea, rfl, ha⟩ := DataW.trod_int Try.underlying3 u0
    obtain ⟨pb, eb, rfl, hb⟩ := DataW.trod_int Try.underlying3 u1
    obtain rfl : c0 = .int .i64 pa := by simpa using ea
    obtain rfl : c1 = .int .i64 pb := by simpa using eb
    have k0 := hc 0 (by omega)
    have k1 := hc 1 (by omega)
    change W.cell? ⟨b, off + 0, none⟩ = some (.int .i64 pa) at k0
    change W.cell? ⟨b, off + 1, none⟩ = some (.int .i64 pb) at k1
    rw [Nat.add_zero] at k0
    exact ⟨(pa, pb), k0, k1, ha, hb⟩
set_option maxRecDepth 100000 in
theorem open_spans {n : Nat} {held : Bool} {A : Option Addr} {len cap : Nat} {x : DataW H × List MemPlace} (h : DataW.trod enc Try.prog W 0 (fun _ => true) held n 36 [.slice A len cap] = some x) :
    ∃ L : List (Int × Int), Sps W W.heap.size A len L ∧ len ≤ cap ∧ cap ≤ maxLen ∧ ∀ p ∈ L, SpanWf p := by
  rcases open_slice Try.underlying36 h with ⟨hcs, rfl⟩ | ⟨a, l, c, m, n', D, Pl, hcs, _, hlc, hm, hmm, rfl, hi⟩
  · simp at hcs
    obtain ⟨rfl, rfl, rfl⟩ := hcs
    exact ⟨[], Sps.nil _ _ _, Nat.le_refl _, by unfold maxLen; omega, fun p hp => by cases hp⟩
  · simp at hcs
    obtain ⟨rfl, rfl, rfl⟩ := hcs
    simp only [if_true] at hmm
    subst hmm
    by_cases hl0 : len = 0
    · subst hl0
      exact ⟨[], Sps.nil _ _ _, hlc, hm, fun p hp => by cases hp⟩
    obtain ⟨b, off, spot⟩ := a
    have hsp : spot = none := by
      obtain ⟨cs', hc, _⟩ := hi 0 (by omega)
      rw [cells23] at hc
      obtain ⟨_, hl3, hcell⟩ := World.cells?_some hc
      have h0 := hcell 0 (by omega)
      rw [List.getElem?_eq_getElem (by omega)] at h0
      simpa [Addr.add] using World.cell?_spot h0
    subst hsp
    have ea (j k : Nat) : ((⟨b, off, none⟩ : Addr).add j).add k = ⟨b, off + j + k, none⟩ := by
      simp only [Addr.add]
      split <;> split <;> simp_all
    have hR : ∀ i, i < len → ∃ p : Int × Int, W.cell? ⟨b, off + i * 2, none⟩ = some (.int .i64 p.1) ∧ W.cell? ⟨b, off + i * 2 + 1, none⟩ = some (.int .i64 p.2) ∧ SpanWf p := by
      intro i hil
      obtain ⟨cs', hc, ht⟩ := hi i (by omega)
      rw [cells23] at hc
      obtain ⟨_, hl3, hcell⟩ := World.cells?_some hc
      exact span_of (W := W) (b := b) (off := off + i * 2) (cs := cs') (fun k hk => by rw [← ea]; exact hcell k hk) hl3 ht
    obtain ⟨L, hL, hP⟩ := list_ofS len hR
    refine ⟨L, ⟨hL, fun h0 => ?_⟩, hlc, hm, fun p hp => ?_⟩
    · exact ⟨b, off, rfl, World.block_lt_of_cell? W _ (hP 0 (by omega)).1, fun j hj => ⟨(hP j hj).1, (hP j hj).2.1⟩⟩
    · obtain ⟨j, hj, rfl⟩ := List.getElem_of_mem hp
      exact (hP j hj).2.2
end
end Go.Proofs.Ytlonpimnjjkfpaa
