/-
  A slice of spans (two numbers each: two cells) read as a list.
-/
import Derived.Test.YtlonpimnjjkfpaaChecked
import Derived.WalkKit
import Derived.ProofKit
import Derived.Below
import Derived.Deep.Draws
namespace Go.Proofs.Ytlonpimnjjkfpaa
open Go.ChangeShapes Go.WideShapes Go.ChangeAt Go.RowKit

/-- n spans from the address on (which may be none where there are none), all below block B -/
def Sps (w : World) (B : Nat) (A : Option Addr) (n : Nat) (L : List (Int × Int)) : Prop :=
  L.length = n ∧ (0 < n → ∃ b off, A = some ⟨b, off, none⟩ ∧ b < B ∧ ∀ j (h : j < L.length), w.cell? ⟨b, off + j * 2, none⟩ = some (.int .i64 L[j].1) ∧ w.cell? ⟨b, off + j * 2 + 1, none⟩ = some (.int .i64 L[j].2))
section
variable {w w' : World} {B n : Nat} {A : Option Addr} {L : List (Int × Int)}
theorem Sps.below (h : Sps w B A n L) (hb : Below B w w') : Sps w' B A n L :=
  ⟨h.1, fun hn => by
    obtain ⟨b, off, e, hB, hc⟩ := h.2 hn
    exact ⟨b, off, e, hB, fun j hj => ⟨(hb.cell (p := ⟨b, off + j * 2, none⟩) hB).trans (hc j hj).1, (hb.cell (p := ⟨b, off + j * 2 + 1, none⟩) hB).trans (hc j hj).2⟩⟩⟩
theorem Sps.drewN (h : Sps w B A n L) (m : Nat) : Sps (w.drewN m) B A n L := h
theorem Sps.mono (h : Sps w B A n L) {B' : Nat} (hB : B ≤ B') : Sps w B' A n L :=
  ⟨h.1, fun hn => by
    obtain ⟨b, off, e, hb, hc⟩ := h.2 hn
    exact ⟨b, off, e, by omega, hc⟩⟩
theorem Sps.nil (w : World) (B : Nat) (A : Option Addr) : Sps w B A 0 [] := ⟨rfl, fun h => absurd h (by omega)⟩
end
/-- what holds of any, one more -/
theorem any_snoc {α : Type} {f : α → Bool} {L : List α} {k : Nat} (hk : k < L.length) : (L.take (k + 1)).any f = ((L.take k).any f || f L[k]) := by
  rw [List.take_succ_eq_append_getElem hk, List.any_append, List.any_cons, List.any_nil, Bool.or_false]
end Go.Proofs.Ytlonpimnjjkfpaa
