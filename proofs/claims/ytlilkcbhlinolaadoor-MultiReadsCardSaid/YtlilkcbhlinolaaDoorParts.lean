/-
  A slice of parts (two numbers and a slice of bytes each: three cells) read as a list; plain mathematics of parts.
-/
import Derived.Test.YtlilkcbhlinolaaDoorCrangePrint
import Derived.Test.YtlilkcbhlinolaaDoorPrintLen
import Derived.Test.YtlilkcbhlinolaaDoorBytes
import Derived.Test.YtlilkcbhlinolaaDoorThree
namespace Go.Proofs.YtlilkcbhlinolaaDoor
open Go.ChangeShapes Go.WideShapes Go.ChangeAt Go.RowKit

/-- a part: from, to, its bytes -/
abbrev Mu.Part : Type := Int × Int × List UInt8
def Mu.okP (total : Int) (p : Mu.Part) : Bool := Cr.spanB p.1 p.2.1 && !decide (total < p.2.1) && (p.2.1 - p.1 == (p.2.2.length : Int))
def Mu.right (L : List Mu.Part) (total : Int) : Bool := L.all (Mu.okP total) && (decide (1 ≤ (L.length : Int)) && decide ((L.length : Int) ≤ 16) && decide (total ≤ 4611686018427387903))
def Mu.eol : List UInt8 := [13, 10]
def Mu.field : List UInt8 := [13, 10, 67, 111, 110, 116, 101, 110, 116, 45, 82, 97, 110, 103, 101, 58, 32]
def Mu.head (bound : List UInt8) (total : Int) (p : Mu.Part) : List UInt8 := [45, 45] ++ bound ++ Mu.field ++ Cr.printL true p.1 p.2.1 total ++ [13, 10, 13, 10]
def Mu.piece (bound : List UInt8) (total : Int) (p : Mu.Part) : List UInt8 := Mu.head bound total p ++ p.2.2 ++ Mu.eol
def Mu.close (bound : List UInt8) : List UInt8 := [45, 45] ++ bound ++ [45, 45, 13, 10]
def Mu.put (L : List Mu.Part) (total : Int) (bound : List UInt8) : List UInt8 := L.flatMap (Mu.piece bound total) ++ Mu.close bound
def Mu.may (bound : List UInt8) : Bool := Tx.token bound && decide ((bound.length : Int) ≤ 40)

/-- the j-th of them lies there: its three cells, its bytes below block B -/
def PartAt (w : World) (B b off : Nat) (p : Mu.Part) : Prop :=
  w.cell? ⟨b, off, none⟩ = some (.int .i64 p.1) ∧ w.cell? ⟨b, off + 1, none⟩ = some (.int .i64 p.2.1) ∧ ∃ A c, w.cell? ⟨b, off + 2, none⟩ = some (.slice A p.2.2.length c) ∧ p.2.2.length ≤ c ∧ Bs w B A p.2.2.length p.2.2
/-- n parts from the address on (which may be none where there are none), they and their bytes below block B -/
def Ps (w : World) (B : Nat) (A : Option Addr) (n : Nat) (L : List Mu.Part) : Prop :=
  L.length = n ∧ (0 < n → ∃ b off, A = some ⟨b, off, none⟩ ∧ b < B ∧ ∀ j (h : j < L.length), PartAt w B b (off + j * 3) L[j])
section
variable {w w' : World} {B n : Nat} {A : Option Addr} {L : List Mu.Part}
theorem PartAt.below {b off : Nat} {p : Mu.Part} (h : PartAt w B b off p) (hb : Below B w w') (hB : b < B) : PartAt w' B b off p := by
  obtain ⟨h1, h2, A, c, h3, h4, h5⟩ := h
  exact ⟨(hb.cell (p := ⟨b, off, none⟩) hB).trans h1, (hb.cell (p := ⟨b, off + 1, none⟩) hB).trans h2, A, c, (hb.cell (p := ⟨b, off + 2, none⟩) hB).trans h3, h4, h5.below hb⟩
theorem Ps.below (h : Ps w B A n L) (hb : Below B w w') : Ps w' B A n L :=
  ⟨h.1, fun hn => by
    obtain ⟨b, off, e, hB, hc⟩ := h.2 hn
    exact ⟨b, off, e, hB, fun j hj => (hc j hj).below hb hB⟩⟩
theorem Ps.drewN (h : Ps w B A n L) (m : Nat) : Ps (w.drewN m) B A n L := h
theorem Ps.mono (h : Ps w B A n L) {B' : Nat} (hB : B ≤ B') : Ps w B' A n L :=
  ⟨h.1, fun hn => by
    obtain ⟨b, off, e, hb, hc⟩ := h.2 hn
    refine ⟨b, off, e, by omega, fun j hj => ?_⟩
    obtain ⟨h1, h2, A', c, h3, h4, h5⟩ := hc j hj
    exact ⟨h1, h2, A', c, h3, h4, h5.mono hB⟩⟩
theorem Ps.nil (w : World) (B : Nat) (A : Option Addr) : Ps w B A 0 [] := ⟨rfl, fun h => absurd h (by omega)⟩
end
theorem take_all_snoc {α : Type} {f : α → Bool} {L : List α} {k : Nat} (hk : k < L.length) : (L.take (k + 1)).all f = ((L.take k).all f && f L[k]) := by
  rw [List.take_succ_eq_append_getElem hk, List.all_append, List.all_cons, List.all_nil, Bool.and_true]
theorem all_of_take {α : Type} {f : α → Bool} {L : List α} {k : Nat} (hk : k < L.length) (h : f L[k] = false) : L.all f = false := by
  rw [List.all_eq_false]
  exact ⟨L[k], List.getElem_mem hk, by simp [h]⟩
/-- how many bytes the bodies have together -/
def Mu.bulk (L : List Mu.Part) : Nat := (L.map fun p => p.2.2.length).sum
def Mu.few (L : List Mu.Part) : Bool := decide (Mu.bulk L ≤ 2000) && decide ((L.length : Int) ≤ 20)
theorem Mu.bulk_snoc {L : List Mu.Part} {k : Nat} (hk : k < L.length) : Mu.bulk (L.take (k + 1)) = Mu.bulk (L.take k) + L[k].2.2.length := by
  unfold Mu.bulk
  rw [List.take_succ_eq_append_getElem hk, List.map_append, List.sum_append, List.map_cons, List.map_nil, List.sum_cons, List.sum_nil, Nat.add_zero]
theorem Mu.bulk_le (L : List Mu.Part) (k : Nat) : Mu.bulk (L.take k) ≤ Mu.bulk L := by
  unfold Mu.bulk
  conv => rhs; rw [← List.take_append_drop k L, List.map_append, List.sum_append]
  omega
theorem Mu.put_snoc {L : List Mu.Part} {k : Nat} (hk : k < L.length) (bound : List UInt8) (total : Int) : (L.take (k + 1)).flatMap (Mu.piece bound total) = (L.take k).flatMap (Mu.piece bound total) ++ Mu.head bound total L[k] ++ L[k].2.2 ++ Mu.eol := by
  rw [List.take_succ_eq_append_getElem hk, List.flatMap_append, List.flatMap_cons, List.flatMap_nil, List.append_nil]
  unfold Mu.piece
  simp only [List.append_assoc]
theorem Mu.head_len (bound : List UInt8) (total : Int) (p : Mu.Part) : (Mu.head bound total p).length = 23 + bound.length + (Cr.printL true p.1 p.2.1 total).length := by
  unfold Mu.head Mu.field
  simp only [List.length_append, List.length_cons, List.length_nil]
  omega
theorem Mu.put_len {n : Nat} : ∀ (L : List Mu.Part) (bound : List UInt8) (total : Int), bound.length ≤ n → (L.flatMap (Mu.piece bound total)).length ≤ L.length * (n + 110) + Mu.bulk L
  | [], _, _, _ => by simp
  | p :: L, bound, total, h => by
    have ih := Mu.put_len L bound total h
    have h1 := Mu.head_len bound total p
    have h2 := Cr.print_len true p.1 p.2.1 total
    rw [List.flatMap_cons, List.length_append]
    unfold Mu.piece Mu.eol Mu.bulk at *
    simp only [List.length_append, List.length_cons, List.length_nil, List.map_cons, List.sum_cons] at *
    rw [Nat.add_mul]
    omega
end Go.Proofs.YtlilkcbhlinolaaDoor
