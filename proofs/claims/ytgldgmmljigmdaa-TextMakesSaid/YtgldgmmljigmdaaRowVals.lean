/-
  Slices of texts and of integers that came in, as the row's step opens them, read as lists of values.
-/
import Derived.Test.YtgldgmmljigmdaaRefTexts
import Derived.Test.YtgldgmmljigmdaaRowBytes
import Derived.SliceStrings
namespace Go.Proofs.Ytgldgmmljigmdaa
open Go.ChangeShapes Go.WideShapes Go.ChangeAt Go.RowKit

/-- a list of integers as values -/
def nums (k : IntKind) (l : List Int) : List Value := l.map (.int k)
theorem nums_length (k : IntKind) (l : List Int) : (nums k l).length = l.length := by simp [nums]
theorem nums_get (k : IntKind) (l : List Int) (j : Nat) (h : j < (nums k l).length) (h' : j < l.length) : (nums k l)[j] = .int k l[j] := by simp [nums]

theorem vs_of_cells {w : World} {x : Addr} {len : Nat} {xs : List Value} (hlen : xs.length = len) (hcell : ∀ i (h : i < xs.length), w.cell? (x.add i) = some xs[i]) : Vs w w.heap.size (some x) len xs := by
  refine ⟨hlen, fun h0 => ?_⟩
  obtain ⟨b, off, spot⟩ := x
  have hc0 := hcell 0 (by omega)
  have hspot : spot = none := by simpa [Addr.add] using World.cell?_spot hc0
  subst hspot
  refine ⟨b, off, rfl, ?_, fun j hj => ?_⟩
  · have := World.block_lt_of_cell? w _ hc0
    rwa [block_of_add] at this
  · have e : (⟨b, off, none⟩ : Addr).add j = ⟨b, off + j, none⟩ := by
      simp only [Addr.add]
      split <;> simp_all
    rw [← e]
    exact hcell j hj

theorem vs_of_rowIn {k : IntKind} {w : World} {a : Option Addr} {len cap : Nat} {zs : List Int} (h : RowIn k w a len cap zs) : ∃ l : List Int, Vs w w.heap.size a len (nums k l) ∧ len ≤ cap ∧ ∀ z ∈ l, (Lit.int k z).wf = true := by
  rcases h with ⟨rfl, rfl, rfl, rfl⟩ | ⟨x, rfl, hl, hm, hz, hcell, hwz⟩
  · exact ⟨[], Vs.nil _ _ _, Nat.le_refl _, by simp⟩
  · refine ⟨zs.take len, vs_of_cells (by rw [nums_length, List.length_take]; omega) (fun i hi => ?_), hl, fun z h => hwz z (List.mem_of_mem_take h)⟩
    have hi' : i < zs.length := by rw [nums_length, List.length_take] at hi; omega
    rw [hcell i hi']
    simp [nums, hi']

/-- a slice of texts that came in: none, or a row of cells, spare ones too -/
def StrsIn (w : World) (a : Option Addr) (len cap : Nat) (ss : List ByteArray) : Prop :=
  (a = none ∧ len = 0 ∧ cap = 0 ∧ ss = []) ∨
  ∃ x, a = some x ∧ len ≤ cap ∧ cap ≤ maxLen ∧ ss.length = cap ∧ (∀ i, i < ss.length → w.cell? (x.add i) = some (.string (ss.getD i ByteArray.empty))) ∧ ∀ s ∈ ss, s.size ≤ maxLen
theorem vs_of_strsIn {w : World} {a : Option Addr} {len cap : Nat} {ss : List ByteArray} (h : StrsIn w a len cap ss) : ∃ l : List (List UInt8), Vs w w.heap.size a len (strs l) ∧ len ≤ cap ∧ ∀ x ∈ l, x.length ≤ maxLen := by
  rcases h with ⟨rfl, rfl, rfl, rfl⟩ | ⟨x, rfl, hl, hm, hz, hcell, hws⟩
  · exact ⟨[], Vs.nil _ _ _, Nat.le_refl _, by simp⟩
  · refine ⟨(ss.take len).map fun s => s.data.toList, vs_of_cells (by rw [strs_length, List.length_map, List.length_take]; omega) (fun i hi => ?_), hl, fun z h => ?_⟩
    · have hi' : i < ss.length := by rw [strs_length, List.length_map, List.length_take] at hi; omega
      rw [hcell i hi']
      simp only [strs, List.getElem_map, List.getElem_take, List.getD_eq_getElem?_getD, List.getElem?_eq_getElem hi', Option.getD_some]
      rw [← str_of (t := ss[i]) rfl]
    · obtain ⟨s, hs, rfl⟩ := List.mem_map.1 h
      rw [size_list]
      exact hws s (List.mem_of_mem_take hs)
end Go.Proofs.Ytgldgmmljigmdaa
