/-
  Slices of integers that came in, as the row's step opens them, read as lists of values.
-/
import Derived.Test.YtopkhmbgdhpgeaaIntVals
import Derived.Test.YtopkhmbgdhpgeaaRowBytes
namespace Go.Proofs.Ytopkhmbgdhpgeaa
open Go.ChangeShapes Go.WideShapes Go.ChangeAt Go.RowKit

theorem vs_of_cells {w : World} {x : Addr} {len : Nat} {xs : List Value} (hlen : xs.length = len) (hcell : ∀ i (h : i < xs.length), w.cell? (x.add i) = some xs[i]) : Vs w w.heap.size (some x) len xs := by
  refine ⟨hlen, fun h0 => ?_⟩
  obtain ⟨b, off, spot⟩ := x
  have hc0 := hcell 0 (by omega)
  have hspot : spot = none := by simpa [Addr.add] using World.cell?_spot hc0
  subst hspot
  refine ⟨b, off, rfl, ?_, fun j hj => ?_⟩
  · have := World.block_lt_of_cell? w _ hc0
    rwa [block_of_add] at this
  · have e : (⟨b, off, none⟩ : Addr).add j = ⟨b, off + j, none⟩ := by
      simp only [Addr.add]
      split <;> simp_all
    rw [← e]
    exact hcell j hj

theorem vs_of_rowIn {k : IntKind} {w : World} {a : Option Addr} {len cap : Nat} {zs : List Int} (h : RowIn k w a len cap zs) : ∃ l : List Int, Vs w w.heap.size a len (nums k l) ∧ len ≤ cap ∧ ∀ z ∈ l, (Lit.int k z).wf = true := by
  rcases h with ⟨rfl, rfl, rfl, rfl⟩ | ⟨x, rfl, hl, hm, hz, hcell, hwz⟩
  · exact ⟨[], Vs.nil _ _ _, Nat.le_refl _, by simp⟩
  · refine ⟨zs.take len, vs_of_cells (by rw [nums_length, List.length_take]; omega) (fun i hi => ?_), hl, fun z h => hwz z (List.mem_of_mem_take h)⟩
    have hi' : i < zs.length := by rw [nums_length, List.length_take] at hi; omega
    rw [hcell i hi']
    simp [nums, hi']
end Go.Proofs.Ytopkhmbgdhpgeaa
