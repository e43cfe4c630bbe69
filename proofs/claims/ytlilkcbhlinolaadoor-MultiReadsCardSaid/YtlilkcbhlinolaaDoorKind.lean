/-
  Contract of text.kindOf: what is asked of a byte.
-/
import Derived.Test.YtlilkcbhlinolaaDoorIndexByte
import Derived.Test.YtlilkcbhlinolaaDoorTextMath
import Derived.Below
namespace Go.Proofs.YtlilkcbhlinolaaDoor
open Go.ChangeShapes Go.WideShapes Go.ChangeAt Go.RowKit

theorem below_two (w : World) (a b : Obj) : Below w.heap.size w ((w.alloc a).alloc b) := ((Below.refl _ _).alloc (Nat.le_refl _) _).alloc (by simp) _

set_option maxHeartbeats 1000000 in
theorem kind_cap (c : UInt8) (w : World) (h1 : 65 ≤ (c.toNat : Int)) (h2 : (c.toNat : Int) ≤ 90) :
    Calls Tryd.prog 48 #[.int .u8 (c.toNat : Int)] w fun e w' => e = .returned (.agg #[.bool false, .bool true, .bool true]) ∧ Below w.heap.size w w' := by
  go_enter Tryd.func48, Tryd.ntmps48
  go_wp2
  exact bodyPost_ret (v := .agg #[.bool false, .bool true, .bool true]) (by simp [results, Tryd.results48, go_sem]) rfl ⟨rfl, below_two _ _ _⟩

set_option maxHeartbeats 1000000 in
theorem kind_small (c : UInt8) (w : World) (h1 : 97 ≤ (c.toNat : Int)) (h2 : (c.toNat : Int) ≤ 122) :
    Calls Tryd.prog 48 #[.int .u8 (c.toNat : Int)] w fun e w' => e = .returned (.agg #[.bool false, .bool false, .bool true]) ∧ Below w.heap.size w w' := by
  go_enter Tryd.func48, Tryd.ntmps48
  go_wp2
  exact bodyPost_ret (v := .agg #[.bool false, .bool false, .bool true]) (by simp [results, Tryd.results48, go_sem]) rfl ⟨rfl, below_two _ _ _⟩

set_option maxHeartbeats 1000000 in
theorem kind_dig (c : UInt8) (w : World) (h1 : 48 ≤ (c.toNat : Int)) (h2 : (c.toNat : Int) ≤ 57) :
    Calls Tryd.prog 48 #[.int .u8 (c.toNat : Int)] w fun e w' => e = .returned (.agg #[.bool false, .bool false, .bool true]) ∧ Below w.heap.size w w' := by
  go_enter Tryd.func48, Tryd.ntmps48
  go_wp2
  exact bodyPost_ret (v := .agg #[.bool false, .bool false, .bool true]) (by simp [results, Tryd.results48, go_sem]) rfl ⟨rfl, below_two _ _ _⟩

/-- neither a letter nor a digit -/
def Odd (c : UInt8) : Prop := (c.toNat : Int) ≤ 47 ∨ (58 ≤ (c.toNat : Int) ∧ (c.toNat : Int) ≤ 64) ∨ (91 ≤ (c.toNat : Int) ∧ (c.toNat : Int) ≤ 96) ∨ 123 ≤ (c.toNat : Int)

set_option maxHeartbeats 2000000 in
theorem kind_mark (c : UInt8) (w : World) (ho : Odd c) (hm : c ∈ Tx.marks) :
    Calls Tryd.prog 48 #[.int .u8 (c.toNat : Int)] w fun e w' => e = .returned (.agg #[.bool false, .bool false, .bool true]) ∧ Below w.heap.size w w' := by
  have ci : ∀ W, Calls Tryd.prog 61 #[.string ⟨#[33, 35, 36, 37, 38, 39, 42, 43, 45, 46, 94, 95, 96, 124, 126]⟩, .int .u8 (c.toNat : Int)] W fun e w' => (∃ k : Nat, e = .returned (.int .i64 (k : Int))) ∧ W = w' := fun W => (idx_any _ c W).mono fun e w' ⟨he, hw⟩ => by
    obtain ⟨a, b, e', hn⟩ := List.eq_append_cons_of_mem hm
    have e2 : (ByteArray.mk #[33, 35, 36, 37, 38, 39, 42, 43, 45, 46, 94, 95, 96, 124, 126]).data.toList = a ++ c :: b := e'
    rw [e2, indexByte_at hn] at he
    exact ⟨⟨_, he⟩, hw⟩
  clear hm
  rcases ho with h | ⟨h, h'⟩ | ⟨h, h'⟩ | h
  all_goals
    go_enter Tryd.func48, Tryd.ntmps48
    go_wp2_with (go_at_call 61; refine (ci _).mono ?_; rintro e w' ⟨⟨k, rfl⟩, rfl⟩; clear ci)
    exact bodyPost_ret (v := .agg #[.bool false, .bool false, .bool true]) (by simp [results, Tryd.results48, go_sem]) rfl ⟨rfl, below_two _ _ _⟩

set_option maxHeartbeats 2000000 in
theorem kind_rest (c : UInt8) (w : World) (ho : Odd c) (hm : c ∉ Tx.marks) :
    Calls Tryd.prog 48 #[.int .u8 (c.toNat : Int)] w fun e w' => e = .returned (.agg #[.bool (Tx.blank c), .bool false, .bool false]) ∧ Below w.heap.size w w' := by
  have ci : ∀ W, Calls Tryd.prog 61 #[.string ⟨#[33, 35, 36, 37, 38, 39, 42, 43, 45, 46, 94, 95, 96, 124, 126]⟩, .int .u8 (c.toNat : Int)] W fun e w' => e = .returned (.int .i64 (-1)) ∧ W = w' := fun W => (idx_any _ c W).mono fun e w' ⟨he, hw⟩ => by
    have e2 : c ∉ (ByteArray.mk #[33, 35, 36, 37, 38, 39, 42, 43, 45, 46, 94, 95, 96, 124, 126]).data.toList := hm
    rw [indexByte_none e2] at he
    exact ⟨he, hw⟩
  clear hm
  by_cases hb : Tx.blank c = true
  · have h12 : c = 32 ∨ c = 9 := by simpa [Tx.blank] using hb
    rw [hb]
    clear hb ho
    rcases h12 with rfl | rfl
    all_goals
      go_enter Tryd.func48, Tryd.ntmps48
      go_wp2_with (go_at_call 61; refine (ci _).mono ?_; rintro e w' ⟨rfl, rfl⟩; clear ci)
      exact bodyPost_ret (v := .agg #[.bool true, .bool false, .bool false]) (by simp [results, Tryd.results48, go_sem]) rfl ⟨rfl, below_two _ _ _⟩
  · have hb : Tx.blank c = false := by simpa using hb
    have h1 : ((c.toNat : Int) == 32) = false := by
      rw [beq_eq_false_iff_ne]
      intro e
      have : c = 32 := UInt8.toNat_inj.1 (by have : (32 : UInt8).toNat = 32 := rfl; omega)
      rw [this] at hb; exact absurd hb (by decide)
    have h2 : ((c.toNat : Int) == 9) = false := by
      rw [beq_eq_false_iff_ne]
      intro e
      have : c = 9 := UInt8.toNat_inj.1 (by have : (9 : UInt8).toNat = 9 := rfl; omega)
      rw [this] at hb; exact absurd hb (by decide)
    rw [hb]
    clear hb
    rcases ho with h | ⟨h, h'⟩ | ⟨h, h'⟩ | h
    all_goals
      go_enter Tryd.func48, Tryd.ntmps48
      go_wp2_with (go_at_call 61; refine (ci _).mono ?_; rintro e w' ⟨rfl, rfl⟩; clear ci)
      exact bodyPost_ret (v := .agg #[.bool false, .bool false, .bool false]) (by simp [results, Tryd.results48, go_sem]) rfl ⟨rfl, below_two _ _ _⟩

theorem within_yes {a b : Int} {c : UInt8} (h1 : a ≤ (c.toNat : Int)) (h2 : (c.toNat : Int) ≤ b) : Tx.within a b c = true := by simp [Tx.within, h1, h2]
theorem within_no {a b : Int} {c : UInt8} (h : (c.toNat : Int) < a ∨ b < (c.toNat : Int)) : Tx.within a b c = false := by
  unfold Tx.within
  rcases h with h | h
  · rw [decide_eq_false (by omega)]; rfl
  · rw [decide_eq_false (p := (c.toNat : Int) ≤ b) (by omega)]; simp
theorem blank_no {c : UInt8} (h : 33 ≤ (c.toNat : Int)) : Tx.blank c = false := by
  unfold Tx.blank
  rw [Bool.or_eq_false_iff, beq_eq_false_iff_ne, beq_eq_false_iff_ne]
  constructor
  · rintro rfl; exact absurd h (by decide)
  · rintro rfl; exact absurd h (by decide)
theorem blank_mark {c : UInt8} (h : c ∈ Tx.marks) : Tx.blank c = false := by
  revert h
  unfold Tx.marks Tx.blank
  simp only [List.mem_cons, List.not_mem_nil, or_false]
  rintro (rfl | rfl | rfl | rfl | rfl | rfl | rfl | rfl | rfl | rfl | rfl | rfl | rfl | rfl | rfl) <;> rfl
theorem odd_or (c : UInt8) : (65 ≤ (c.toNat : Int) ∧ (c.toNat : Int) ≤ 90) ∨ (97 ≤ (c.toNat : Int) ∧ (c.toNat : Int) ≤ 122) ∨ (48 ≤ (c.toNat : Int) ∧ (c.toNat : Int) ≤ 57) ∨ Odd c := by
  unfold Odd
  omega
theorem odd_no {c : UInt8} (h : Odd c) : Tx.cap c = false ∧ Tx.within 97 122 c = false ∧ Tx.within 48 57 c = false := by
  unfold Odd at h
  exact ⟨within_no (by omega), within_no (by omega), within_no (by omega)⟩

/-- what is asked of any byte -/
theorem kind_any (c : UInt8) (w : World) :
    Calls Tryd.prog 48 #[.int .u8 (c.toNat : Int)] w fun e w' => e = .returned (.agg #[.bool (Tx.blank c), .bool (Tx.cap c), .bool (Tx.tok c)]) ∧ Below w.heap.size w w' := by
  rcases odd_or c with ⟨h1, h2⟩ | ⟨h1, h2⟩ | ⟨h1, h2⟩ | h
  · have e1 : Tx.blank c = false := blank_no (by omega)
    have e2 : Tx.cap c = true := within_yes h1 h2
    have e3 : Tx.tok c = true := by simp [Tx.tok, e2]
    rw [e1, e2, e3]
    exact kind_cap c w h1 h2
  · have e1 : Tx.blank c = false := blank_no (by omega)
    have e2 : Tx.cap c = false := within_no (by omega)
    have e3 : Tx.tok c = true := by simp [Tx.tok, within_yes h1 h2]
    rw [e1, e2, e3]
    exact kind_small c w h1 h2
  · have e1 : Tx.blank c = false := blank_no (by omega)
    have e2 : Tx.cap c = false := within_no (by omega)
    have e3 : Tx.tok c = true := by simp [Tx.tok, within_yes h1 h2]
    rw [e1, e2, e3]
    exact kind_dig c w h1 h2
  · obtain ⟨e1, e2, e3⟩ := odd_no h
    by_cases hm : c ∈ Tx.marks
    · have e4 : Tx.tok c = true := by simp [Tx.tok, hm]
      rw [e1, e4, blank_mark hm]
      exact kind_mark c w h hm
    · have e4 : Tx.tok c = false := by simp [Tx.tok, hm, e1, e2, e3]
      rw [e1, e4]
      exact kind_rest c w h hm
end Go.Proofs.YtlilkcbhlinolaaDoor
