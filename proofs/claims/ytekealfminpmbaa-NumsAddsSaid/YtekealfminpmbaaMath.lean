/-
  Plain mathematics on the numbers of texts: how a text of bytes is read as a number, digit by digit. Nothing here speaks of the program.
-/
import Derived.KernelRfl
namespace Go.Proofs.Ytekealfminpmbaa.Nm

def maxNum : Int := 4611686018427387903

/-- is the byte a digit -/
def digB (c : UInt8) : Bool := decide (48 ≤ (c.toNat : Int)) && decide ((c.toNat : Int) ≤ 57)

/-- the reading, from a number and an error on -/
def go (n e : Int) : List UInt8 → Int × Int
  | [] => (n, e)
  | c :: l =>
    if digB c = true then
      if e = 0 then
        if (maxNum - ((c.toNat : Int) - 48)) / 10 < n then go 0 9 l
        else go (10 * n + ((c.toNat : Int) - 48)) 0 l
      else go n e l
    else (0, 3)

/-- the reading of a whole text -/
def parse (l : List UInt8) : Int × Int := if l = [] then (0, 3) else go 0 0 l

theorem go_bad {n e : Int} {c : UInt8} {l : List UInt8} (h : digB c = false) : go n e (c :: l) = (0, 3) := by
  simp [go, h]
theorem go_err {n e : Int} {c : UInt8} {l : List UInt8} (h : digB c = true) (he : e ≠ 0) : go n e (c :: l) = go n e l := by
  simp [go, h, he]
theorem go_over {n : Int} {c : UInt8} {l : List UInt8} (h : digB c = true) (ho : (maxNum - ((c.toNat : Int) - 48)) / 10 < n) : go n 0 (c :: l) = go 0 9 l := by
  simp [go, h, ho]
theorem go_dig {n : Int} {c : UInt8} {l : List UInt8} (h : digB c = true) (ho : ¬ (maxNum - ((c.toNat : Int) - 48)) / 10 < n) : go n 0 (c :: l) = go (10 * n + ((c.toNat : Int) - 48)) 0 l := by
  simp [go, h, ho]
theorem go_nil {n e : Int} : go n e [] = (n, e) := rfl

theorem digB_yes {c : UInt8} (h1 : 48 ≤ (c.toNat : Int)) (h2 : (c.toNat : Int) ≤ 57) : digB c = true := by simp [digB, h1, h2]
theorem digB_no {c : UInt8} (h : ¬ (48 ≤ (c.toNat : Int) ∧ (c.toNat : Int) ≤ 57)) : digB c = false := by
  unfold digB
  by_cases h1 : 48 ≤ (c.toNat : Int)
  · have h2 : ¬ (c.toNat : Int) ≤ 57 := fun h2 => h ⟨h1, h2⟩
    simp [h2]
  · simp [h1]

theorem drop_cons (s : ByteArray) (k : Nat) (h : k < s.size) : s.data.toList.drop k = s[k] :: s.data.toList.drop (k + 1) := by
  rw [List.drop_eq_getElem_cons (by simpa using h)]; rfl
theorem drop_all (s : ByteArray) (k : Nat) (h : s.size ≤ k) : s.data.toList.drop k = [] :=
  List.drop_eq_nil_of_le (by simpa using h)

end Go.Proofs.Ytekealfminpmbaa.Nm
