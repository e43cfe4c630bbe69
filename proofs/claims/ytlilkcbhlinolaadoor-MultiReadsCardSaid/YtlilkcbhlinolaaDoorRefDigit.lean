/-
  Contracts of the document's own Digit; what may stand in a token.
-/
import Derived.Test.YtlilkcbhlinolaaDoorTextStr
namespace Go.Proofs.YtlilkcbhlinolaaDoor
open Go.ChangeShapes Go.WideShapes Go.ChangeAt Go.RowKit

theorem digit_yes (c : UInt8) (w : World) (h1 : 48 ≤ (c.toNat : Int)) (h2 : (c.toNat : Int) ≤ 57) :
    Calls Tryd.prog 28 #[.int .u8 (c.toNat : Int)] w fun e w' => e = .returned (.bool true) ∧ w = w' := by
  go_enter Tryd.func28, Tryd.ntmps28
  go_wp2
  go_ret
  exact ⟨rfl, rfl⟩
theorem digit_no (c : UInt8) (w : World) (h : (c.toNat : Int) < 48 ∨ 57 < (c.toNat : Int)) :
    Calls Tryd.prog 28 #[.int .u8 (c.toNat : Int)] w fun e w' => e = .returned (.bool false) ∧ w = w' := by
  rcases h with h | h
  · go_enter Tryd.func28, Tryd.ntmps28
    go_wp2
    go_ret
    exact ⟨rfl, rfl⟩
  · go_enter Tryd.func28, Tryd.ntmps28
    go_wp2
    go_ret
    exact ⟨ret_bool (decide_eq_false (by omega)), rfl⟩
theorem digit_if {c : UInt8} {b : Bool} (h : Tx.within 48 57 c = b) (w : World) :
    Calls Tryd.prog 28 #[.int .u8 (c.toNat : Int)] w fun e w' => e = .returned (.bool b) ∧ w = w' := by
  cases b with
  | true =>
    have : 48 ≤ (c.toNat : Int) ∧ (c.toNat : Int) ≤ 57 := by simpa [Tx.within] using h
    exact digit_yes c w this.1 this.2
  | false =>
    refine digit_no c w ?_
    by_cases h1 : 48 ≤ (c.toNat : Int)
    · by_cases h2 : (c.toNat : Int) ≤ 57
      · rw [within_yes h1 h2] at h; cases h
      · omega
    · omega

/-- a letter, a digit or a grave accent -/
def tok0 (c : UInt8) : Bool := Tx.within 48 57 c || Tx.within 97 122 c || Tx.within 65 90 c || c == 96
theorem tok_alt (c : UInt8) : Tx.tok c = (tok0 c || Tx.marks14.any (· == c)) := by
  have : Tx.marks.contains c = (c == 96 || Tx.marks14.any (· == c)) := by
    rw [Bool.eq_iff_iff]
    simp only [List.contains_iff_mem, Bool.or_eq_true, beq_iff_eq, List.any_eq_true, Tx.marks, Tx.marks14, List.mem_cons, List.not_mem_nil, or_false, exists_eq_right]
    constructor
    · rintro (h | h | h | h | h | h | h | h | h | h | h | h | h | h | h) <;> simp [h]
    · rintro (h | h | h | h | h | h | h | h | h | h | h | h | h | h | h) <;> simp [h]
  unfold Tx.tok tok0 Tx.cap
  rw [this]
  cases Tx.within 65 90 c <;> cases Tx.within 97 122 c <;> cases Tx.within 48 57 c <;> simp
def Over (n : Int) (c : UInt8) : Prop := decide ((c.toNat : Int) ≤ n) = false
theorem over {n : Int} {c : UInt8} (h : n < (c.toNat : Int)) : Over n c := decide_eq_false (by omega)
def Is96 (c : UInt8) (b : Bool) : Prop := ((c.toNat : Int) == 96) = b
theorem eq96 (c : UInt8) : (c == 96) = ((c.toNat : Int) == 96) := by
  rw [Bool.eq_iff_iff, beq_iff_eq, beq_iff_eq]
  exact ⟨fun e => by rw [e]; rfl, fun e => UInt8.toNat_inj.1 (by have : (96 : UInt8).toNat = 96 := rfl; omega)⟩
theorem tok_cases (c : UInt8) :
    ((c.toNat : Int) ≤ 47 ∧ Tx.within 48 57 c = false ∧ Is96 c false ∧ tok0 c = false) ∨
    ((48 ≤ (c.toNat : Int) ∧ (c.toNat : Int) ≤ 57) ∧ Tx.within 48 57 c = true ∧ tok0 c = true) ∨
    ((58 ≤ (c.toNat : Int) ∧ (c.toNat : Int) ≤ 64) ∧ Tx.within 48 57 c = false ∧ Is96 c false ∧ tok0 c = false) ∨
    ((65 ≤ (c.toNat : Int) ∧ (c.toNat : Int) ≤ 90) ∧ Tx.within 48 57 c = false ∧ tok0 c = true) ∨
    ((91 ≤ (c.toNat : Int) ∧ (c.toNat : Int) ≤ 95) ∧ Tx.within 48 57 c = false ∧ Is96 c false ∧ tok0 c = false ∧ Over 90 c) ∨
    ((91 ≤ (c.toNat : Int) ∧ (c.toNat : Int) ≤ 96) ∧ Tx.within 48 57 c = false ∧ Is96 c true ∧ tok0 c = true ∧ Over 90 c) ∨
    ((97 ≤ (c.toNat : Int) ∧ (c.toNat : Int) ≤ 122) ∧ Tx.within 48 57 c = false ∧ tok0 c = true) ∨
    (123 ≤ (c.toNat : Int) ∧ Tx.within 48 57 c = false ∧ Is96 c false ∧ tok0 c = false ∧ Over 90 c ∧ Over 122 c) := by
  unfold tok0 Is96
  rw [eq96]
  have n1 : (c.toNat : Int) ≠ 96 → ((c.toNat : Int) == 96) = false := fun h => beq_eq_false_iff_ne.2 h
  by_cases h1 : (c.toNat : Int) ≤ 47
  · exact .inl ⟨h1, within_no (by omega), n1 (by omega), by rw [within_no (by omega), within_no (by omega), within_no (by omega), n1 (by omega)]; rfl⟩
  refine .inr ?_
  by_cases h2 : (c.toNat : Int) ≤ 57
  · exact .inl ⟨⟨by omega, h2⟩, within_yes (by omega) h2, by rw [within_yes (a := 48) (by omega) h2]; simp⟩
  refine .inr ?_
  by_cases h3 : (c.toNat : Int) ≤ 64
  · exact .inl ⟨⟨by omega, h3⟩, within_no (by omega), n1 (by omega), by rw [within_no (by omega), within_no (by omega), within_no (by omega), n1 (by omega)]; rfl⟩
  refine .inr ?_
  by_cases h4 : (c.toNat : Int) ≤ 90
  · exact .inl ⟨⟨by omega, h4⟩, within_no (by omega), by rw [within_yes (a := 65) (by omega) h4]; simp⟩
  refine .inr ?_
  by_cases h5 : (c.toNat : Int) ≤ 95
  · exact .inl ⟨⟨by omega, h5⟩, within_no (by omega), n1 (by omega), by rw [within_no (by omega), within_no (by omega), within_no (by omega), n1 (by omega)]; rfl, over (by omega)⟩
  refine .inr ?_
  by_cases h6 : (c.toNat : Int) ≤ 96
  · have : ((c.toNat : Int) == 96) = true := beq_iff_eq.2 (by omega)
    exact .inl ⟨⟨by omega, h6⟩, within_no (by omega), this, by rw [this]; simp, over (by omega)⟩
  refine .inr ?_
  by_cases h7 : (c.toNat : Int) ≤ 122
  · exact .inl ⟨⟨by omega, h7⟩, within_no (by omega), by rw [within_yes (a := 97) (by omega) h7]; simp⟩
  · exact .inr ⟨by omega, within_no (by omega), n1 (by omega), by rw [within_no (by omega), within_no (by omega), within_no (by omega), n1 (by omega)]; rfl, over (by omega), over (by omega)⟩
end Go.Proofs.YtlilkcbhlinolaaDoor
