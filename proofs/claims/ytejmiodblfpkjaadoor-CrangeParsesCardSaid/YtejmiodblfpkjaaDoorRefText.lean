/-
  Contracts of the document's own answers for texts: Digit, Token, Cut, Lower.
-/
import Derived.Test.YtejmiodblfpkjaaDoorTextLower
import Derived.WalkLawsBesides
import Derived.Laws.BytesString
namespace Go.Proofs.YtejmiodblfpkjaaDoor
open Go.ChangeShapes Go.WideShapes Go.ChangeAt Go.RowKit

theorem digit_yes (c : UInt8) (w : World) (h1 : 48 ≤ (c.toNat : Int)) (h2 : (c.toNat : Int) ≤ 57) :
    Calls Tryd.prog 30 #[.int .u8 (c.toNat : Int)] w fun e w' => e = .returned (.bool true) ∧ w = w' := by
  go_enter Tryd.func30, Tryd.ntmps30
  go_wp2
  go_ret
  exact ⟨rfl, rfl⟩
theorem digit_no (c : UInt8) (w : World) (h : (c.toNat : Int) < 48 ∨ 57 < (c.toNat : Int)) :
    Calls Tryd.prog 30 #[.int .u8 (c.toNat : Int)] w fun e w' => e = .returned (.bool false) ∧ w = w' := by
  rcases h with h | h
  · go_enter Tryd.func30, Tryd.ntmps30
    go_wp2
    go_ret
    exact ⟨rfl, rfl⟩
  · go_enter Tryd.func30, Tryd.ntmps30
    go_wp2
    go_ret
    exact ⟨ret_bool (decide_eq_false (by omega)), rfl⟩
theorem digit_if {c : UInt8} {b : Bool} (h : Tx.within 48 57 c = b) (w : World) :
    Calls Tryd.prog 30 #[.int .u8 (c.toNat : Int)] w fun e w' => e = .returned (.bool b) ∧ w = w' := by
  cases b with
  | true =>
    have : 48 ≤ (c.toNat : Int) ∧ (c.toNat : Int) ≤ 57 := by simpa [Tx.within] using h
    exact digit_yes c w this.1 this.2
  | false =>
    refine digit_no c w ?_
    by_cases h1 : 48 ≤ (c.toNat : Int)
    · by_cases h2 : (c.toNat : Int) ≤ 57
      · rw [within_yes h1 h2] at h; cases h
      · omega
    · omega

/-- a letter, a digit or a grave accent -/
def tok0 (c : UInt8) : Bool := Tx.within 48 57 c || Tx.within 97 122 c || Tx.within 65 90 c || c == 96
theorem tok_alt (c : UInt8) : Tx.tok c = (tok0 c || Tx.marks14.any (· == c)) := by
  have : Tx.marks.contains c = (c == 96 || Tx.marks14.any (· == c)) := by
    rw [Bool.eq_iff_iff]
    simp only [List.contains_iff_mem, Bool.or_eq_true, beq_iff_eq, List.any_eq_true, Tx.marks, Tx.marks14, List.mem_cons, List.not_mem_nil, or_false, exists_eq_right]
    constructor
    · rintro (h | h | h | h | h | h | h | h | h | h | h | h | h | h | h) <;> simp [h]
    · rintro (h | h | h | h | h | h | h | h | h | h | h | h | h | h | h) <;> simp [h]
  unfold Tx.tok tok0 Tx.cap
  rw [this]
  cases Tx.within 65 90 c <;> cases Tx.within 97 122 c <;> cases Tx.within 48 57 c <;> simp
def Over (n : Int) (c : UInt8) : Prop := decide ((c.toNat : Int) ≤ n) = false
theorem over {n : Int} {c : UInt8} (h : n < (c.toNat : Int)) : Over n c := decide_eq_false (by omega)
def Is96 (c : UInt8) (b : Bool) : Prop := ((c.toNat : Int) == 96) = b
theorem eq96 (c : UInt8) : (c == 96) = ((c.toNat : Int) == 96) := by
  rw [Bool.eq_iff_iff, beq_iff_eq, beq_iff_eq]
  exact ⟨fun e => by rw [e]; rfl, fun e => UInt8.toNat_inj.1 (by have : (96 : UInt8).toNat = 96 := rfl; omega)⟩
theorem tok_cases (c : UInt8) :
    ((c.toNat : Int) ≤ 47 ∧ Tx.within 48 57 c = false ∧ Is96 c false ∧ tok0 c = false) ∨
    ((48 ≤ (c.toNat : Int) ∧ (c.toNat : Int) ≤ 57) ∧ Tx.within 48 57 c = true ∧ tok0 c = true) ∨
    ((58 ≤ (c.toNat : Int) ∧ (c.toNat : Int) ≤ 64) ∧ Tx.within 48 57 c = false ∧ Is96 c false ∧ tok0 c = false) ∨
    ((65 ≤ (c.toNat : Int) ∧ (c.toNat : Int) ≤ 90) ∧ Tx.within 48 57 c = false ∧ tok0 c = true) ∨
    ((91 ≤ (c.toNat : Int) ∧ (c.toNat : Int) ≤ 95) ∧ Tx.within 48 57 c = false ∧ Is96 c false ∧ tok0 c = false ∧ Over 90 c) ∨
    ((91 ≤ (c.toNat : Int) ∧ (c.toNat : Int) ≤ 96) ∧ Tx.within 48 57 c = false ∧ Is96 c true ∧ tok0 c = true ∧ Over 90 c) ∨
    ((97 ≤ (c.toNat : Int) ∧ (c.toNat : Int) ≤ 122) ∧ Tx.within 48 57 c = false ∧ tok0 c = true) ∨
    (123 ≤ (c.toNat : Int) ∧ Tx.within 48 57 c = false ∧ Is96 c false ∧ tok0 c = false ∧ Over 90 c ∧ Over 122 c) := by
  unfold tok0 Is96
  rw [eq96]
  have n1 : (c.toNat : Int) ≠ 96 → ((c.toNat : Int) == 96) = false := fun h => beq_eq_false_iff_ne.2 h
  by_cases h1 : (c.toNat : Int) ≤ 47
  · exact .inl ⟨h1, within_no (by omega), n1 (by omega), by rw [within_no (by omega), within_no (by omega), within_no (by omega), n1 (by omega)]; rfl⟩
  refine .inr ?_
  by_cases h2 : (c.toNat : Int) ≤ 57
  · exact .inl ⟨⟨by omega, h2⟩, within_yes (by omega) h2, by rw [within_yes (a := 48) (by omega) h2]; simp⟩
  refine .inr ?_
  by_cases h3 : (c.toNat : Int) ≤ 64
  · exact .inl ⟨⟨by omega, h3⟩, within_no (by omega), n1 (by omega), by rw [within_no (by omega), within_no (by omega), within_no (by omega), n1 (by omega)]; rfl⟩
  refine .inr ?_
  by_cases h4 : (c.toNat : Int) ≤ 90
  · exact .inl ⟨⟨by omega, h4⟩, within_no (by omega), by rw [within_yes (a := 65) (by omega) h4]; simp⟩
  refine .inr ?_
  by_cases h5 : (c.toNat : Int) ≤ 95
  · exact .inl ⟨⟨by omega, h5⟩, within_no (by omega), n1 (by omega), by rw [within_no (by omega), within_no (by omega), within_no (by omega), n1 (by omega)]; rfl, over (by omega)⟩
  refine .inr ?_
  by_cases h6 : (c.toNat : Int) ≤ 96
  · have : ((c.toNat : Int) == 96) = true := beq_iff_eq.2 (by omega)
    exact .inl ⟨⟨by omega, h6⟩, within_no (by omega), this, by rw [this]; simp, over (by omega)⟩
  refine .inr ?_
  by_cases h7 : (c.toNat : Int) ≤ 122
  · exact .inl ⟨⟨by omega, h7⟩, within_no (by omega), by rw [within_yes (a := 97) (by omega) h7]; simp⟩
  · exact .inr ⟨by omega, within_no (by omega), n1 (by omega), by rw [within_no (by omega), within_no (by omega), within_no (by omega), n1 (by omega)]; rfl, over (by omega), over (by omega)⟩

set_option maxHeartbeats 1000000 in
theorem refCut_any (s : ByteArray) (c : UInt8) (w : World) (hs : s.size ≤ 9223372036854775807) :
    Calls Tryd.prog 18 #[.string s, .int .u8 (c.toNat : Int)] w (CutTo s.data.toList c w) := by
  go_enter Tryd.func18, Tryd.ntmps18
  go_wp2
  go_loop [7] (fun i => ∃ k : Nat, k ≤ s.size ∧ i = .int .i64 k ∧ Hid (c ∉ s.data.toList.take k)) (fun i => s.size - (intOf i).toNat)
  case atStart => exact ⟨0, by omega, rfl, Lib.hid (by simp)⟩
  case round =>
    obtain ⟨k, hk, rfl, HN⟩ := hrel
    by_cases hlt : k < s.size
    · by_cases hc : s[k] = c
      · have ht : ((s[k].toNat : Int) == (c.toNat : Int)) = true := by rw [hc]; simp
        have HC : Hid (Tx.cut s.data.toList c = ((s.extract 0 k).data.toList, (s.extract (k + 1) s.size).data.toList, true)) := Lib.hid (by
          rw [extract_take, Lib.extract_to_end]
          exact Tx.cut_at (by rw [size_list]; exact hlt) hc HN.out)
        clear hc HN
        go_wp2
        go_quiet (fail)
        go_wp2
        refine bodyPost_ret (results_tmp3 rfl _ _ _) rfl ?_
        exact cutTo_of HC.out (below_drewN (Below.refl _ _) _)
      · have ht : ((s[k].toNat : Int) == (c.toNat : Int)) = false := by
          rw [beq_eq_false_iff_ne]
          intro e
          exact hc (UInt8.toNat_inj.1 (by omega))
        have HN2 : Hid (c ∉ s.data.toList.take (k + 1)) := Lib.hid (by
          rw [take_snoc s k hlt]
          intro e
          rcases List.mem_append.1 e with h | h
          · exact HN.out h
          · exact hc (List.mem_singleton.1 h).symm)
        clear hc HN
        go_wp2
        go_round
        case rel => exact ⟨k + 1, by omega, by go_num, HN2⟩
        case measure => simp [intOf]; omega
    · have HC : Hid (Tx.cut s.data.toList c = (s.data.toList, (ByteArray.mk #[]).data.toList, false)) := Lib.hid (by
        have := HN.out
        rw [List.take_of_length_le (by rw [size_list]; omega)] at this
        exact Tx.cut_none this)
      clear HN
      go_wp2
      go_ret3
      exact cutTo_of HC.out (Below.refl _ _)
end Go.Proofs.YtejmiodblfpkjaaDoor
