/-
  What a law's walk ends in; a shape that may be; rows of deeds.
-/
import Derived.Test.YtgnncbbfbhipaaaFlashMade
namespace Go.Proofs.Ytgnncbbfbhipaaa
open Go.ChangeShapes Go.WideShapes Go.ChangeAt Go.RowKit Fl
set_option maxRecDepth 100000

/-- the truth, and nothing that was there has turned -/
def Yes (w : World) (e : Ending) (w' : World) : Prop := e = .returned (.bool true) ∧ Below w.heap.size w w'
theorem shp_of {s p b : Int} (h : shpB s p b = true) : ∃ S P B : Nat, s = S ∧ p = P ∧ b = B ∧ Shp S P B := by
  unfold shpB at h
  simp only [Bool.and_eq_true, decide_eq_true_eq] at h
  exact ⟨s.toNat, p.toNat, b.toNat, by omega, by omega, by omega, ⟨by omega, by omega, by omega, by omega, by omega, by omega⟩⟩
theorem ds_mono {w : World} {B B' n : Nat} {A : Option Addr} {L : List Dd} (h : Ds w B A n L) (hB : B ≤ B') : Ds w B' A n L :=
  ⟨h.1, fun h0 => by
    obtain ⟨b9, off, e, hlt, hx⟩ := h.2 h0
    exact ⟨b9, off, e, Nat.lt_of_lt_of_le hlt hB, fun j hj => by
      obtain ⟨x0, x1, x2, ⟨A3, c3, x3, y1, y2, y3⟩, x4, x5, x6⟩ := hx j hj
      exact ⟨x0, x1, x2, ⟨A3, c3, x3, y1, y2.mono hB, y3⟩, x4, x5, x6⟩⟩⟩
theorem deeds_len (S P B : Nat) {L : List Dd} (h : L.length ≤ 60) : (deeds S P B L).length ≤ 60 := by
  have := deeds_length S P B L []
  simp only [List.length_nil] at this
  unfold deeds
  omega
end Go.Proofs.Ytgnncbbfbhipaaa
