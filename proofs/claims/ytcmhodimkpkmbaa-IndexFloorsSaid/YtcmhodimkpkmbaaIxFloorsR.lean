/-
  The statement on floors, of the landed index.
-/
import Derived.Test.YtcmhodimkpkmbaaIxSlices
import Derived.Test.YtcmhodimkpkmbaaIxFloorsW
import Derived.Test.YtcmhodimkpkmbaaBitLen
namespace Go.Proofs.Ytcmhodimkpkmbaa
open Go.ChangeShapes Go.WideShapes Go.ChangeAt Go.RowKit
set_option maxRecDepth 100000

theorem cnt_none0 (n : Nat) : Bm.cnt (fun _ => false) n = 0 := by
  have h := Bm.cnt_none (s := fun _ => false) (x := 0) n (fun _ _ _ => rfl)
  rw [Nat.zero_add] at h
  exact h
theorem ixNone : IxNone LIx where
  slices := fun {own W cs S} o h hS => (lxSlices_any o h hS).mono fun e W' ⟨he, hb⟩ => ⟨_, he, hb, fun W2 => (len_any _ W2).mono fun e2 W3 ⟨h1, h2⟩ => ⟨_, h1, fun hn => by
    rw [hn, show keysOf [] = fun _ => false from rfl, cnt_none0]
    rfl, h2⟩⟩
theorem indexFloors_walk (A : Option Addr) (n c : Nat) (L : List Ix.Deed) (x : Ix.Deed) (W : World) (hL : Dv W W.heap.size A n L) :
    Calls Try.prog 3 #[.slice A n c, .agg (ddC x).toArray] W fun e W' => e = .returned (.bool true) ∧ Below W.heap.size W W' :=
  floors_any ixPrg ixTells ixNone ixP_zero (ixP_length _ _) A n c L x W hL
end Go.Proofs.Ytcmhodimkpkmbaa
