/-
  Plain mathematics of pieces: whether one may be, as bytes, and back.
-/
import Derived.Test.YtidjajdgphkbbaaRRFrameMath
namespace Go.Proofs.YtidjajdgphkbbaaRR
set_option maxRecDepth 100000

/-- a piece: its object, generation, place and bytes -/
structure Cp where
  o : Int
  g : Int
  i : Int
  body : List UInt8
namespace Cp
/-- an object and a generation that may be -/
def own (o g : Int) : Bool := decide (0 ≤ o ∧ o ≤ 15 ∧ 1 ≤ g ∧ g ≤ 2147483647)
def right (x : Cp) : Bool := own x.o x.g && decide (0 ≤ x.i ∧ x.i ≤ 4096 ∧ 1 ≤ x.body.length ∧ x.body.length ≤ 64)
def begin (o g : Int) : List UInt8 := UInt8.ofNat o.toNat :: Fm.be g.toNat 4
def bytes (x : Cp) : List UInt8 := (begin x.o x.g ++ Fm.be x.i.toNat 2) ++ x.body
def raw (b : List UInt8) : Cp := ⟨((b.getD 0 0).toNat : Int), (Fm.num ((b.drop 1).take 4) : Int), (Fm.num ((b.drop 5).take 2) : Int), b.drop 7⟩
def get (b : List UInt8) : Option Cp := if b.length < 7 then none else if (raw b).right then some (raw b) else none
theorem begin_length (o g : Int) : (begin o g).length = 5 := by simp [begin, Fm.be_length]
theorem bytes_length (x : Cp) : x.bytes.length = x.body.length + 7 := by
  simp [bytes, begin_length, Fm.be_length]; omega
theorem right_own {x : Cp} (h : x.right = true) : (0 ≤ x.o ∧ x.o ≤ 15 ∧ 1 ≤ x.g ∧ x.g ≤ 2147483647) ∧ 0 ≤ x.i ∧ x.i ≤ 4096 ∧ 1 ≤ x.body.length ∧ x.body.length ≤ 64 := by
  unfold right own at h
  simp only [Bool.and_eq_true, decide_eq_true_eq] at h
  exact h
theorem raw_bytes {x : Cp} (h : x.right = true) : raw x.bytes = x := by
  obtain ⟨⟨h1, h2, h3, h4⟩, h5, h6, -, -⟩ := right_own h
  obtain ⟨o, g, i, body⟩ := x
  simp only at h1 h2 h3 h4 h5 h6
  have e : bytes ⟨o, g, i, body⟩ = UInt8.ofNat o.toNat :: (Fm.be g.toNat 4 ++ (Fm.be i.toNat 2 ++ body)) := by simp [bytes, begin]
  have lg : (Fm.be g.toNat 4).length = 4 := Fm.be_length _ _
  have li : (Fm.be i.toNat 2).length = 2 := Fm.be_length _ _
  unfold raw
  rw [e]
  have a0 : ((UInt8.ofNat o.toNat).toNat : Int) = o := by rw [UInt8.toNat_ofNat']; omega
  have a1 : ((UInt8.ofNat o.toNat :: (Fm.be g.toNat 4 ++ (Fm.be i.toNat 2 ++ body))).drop 1).take 4 = Fm.be g.toNat 4 := by
    rw [List.drop_succ_cons, List.drop_zero, List.take_append_of_le_length (by omega), List.take_of_length_le (by omega)]
  have a2 : ((UInt8.ofNat o.toNat :: (Fm.be g.toNat 4 ++ (Fm.be i.toNat 2 ++ body))).drop 5) = Fm.be i.toNat 2 ++ body := by
    rw [List.drop_succ_cons]; exact List.drop_left' lg
  have a3 : ((UInt8.ofNat o.toNat :: (Fm.be g.toNat 4 ++ (Fm.be i.toNat 2 ++ body))).drop 7) = body := by
    rw [show (7 : Nat) = 5 + 2 from rfl, ← List.drop_drop, a2]; exact List.drop_left' li
  rw [a1, a2, a3, List.take_append_of_le_length (by omega), List.take_of_length_le (by omega), Fm.num_be (by omega), Fm.num_be (by omega)]
  simp only [List.getD_cons_zero]
  rw [a0]
  congr 1 <;> omega
/-- there and back -/
theorem get_bytes {x : Cp} (h : x.right = true) : get x.bytes = some x := by
  unfold get
  rw [bytes_length, if_neg (by omega), raw_bytes h, if_pos h]
theorem get_right {b : List UInt8} {x : Cp} (h : get b = some x) : 7 ≤ b.length ∧ raw b = x ∧ x.right = true := by
  unfold get at h
  split at h
  · cases h
  · split at h
    · injection h with h
      subst h
      exact ⟨by omega, rfl, by assumption⟩
    · cases h
end Cp
end Go.Proofs.YtidjajdgphkbbaaRR
