/-
  The walk of the statement on what any texts are.
-/
import Derived.Test.YtgldgmmljigmdaaTextAwake
import Derived.Test.YtgldgmmljigmdaaRefToken
namespace Go.Proofs.Ytgldgmmljigmdaa
open Go.ChangeShapes Go.WideShapes Go.ChangeAt Go.RowKit

theorem tells_long (a b : ByteArray) (sep : Int) (w : World) (h : 500 < a.size ∨ (a.size ≤ 500 ∧ 500 < b.size)) :
    Calls Try.prog 3 #[.string a, .string b, .int .u8 sep] w fun e w' => e = .returned (.bool true) ∧ Below w.heap.size w w' := by
  rcases h with h | ⟨h1, h2⟩
  all_goals
    go_enter Try.func3, Try.ntmps3
    go_wp2_with (go_at_call 6; refine (textAwake_yes _).mono ?_; rintro e w' ⟨rfl, hb1⟩)
    go_ret
    exact ⟨rfl, hb1⟩

set_option maxHeartbeats 4000000 in
theorem tells_walk (a b T R LA LB C1 C2 : ByteArray) (sep : Int) (q0 tk q5 c3 : Bool) (w : World) (ha : a.size ≤ 500) (hb : b.size ≤ 500)
    (cc : ∀ W, Calls Try.prog 7 #[.string a, .int .u8 sep] W fun e w' => e = .returned (.tuple #[.string C1, .string C2, .bool c3]) ∧ Below W.heap.size W w')
    (dc : ∀ W, Calls Try.prog 8 #[.string a, .int .u8 sep] W fun e w' => e = .returned (.tuple #[.string C1, .string C2, .bool c3]) ∧ Below W.heap.size W w')
    (ct : ∀ W, Calls Try.prog 10 #[.string a] W fun e w' => e = .returned (.string T) ∧ Below W.heap.size W w')
    (dt : ∀ W, Calls Try.prog 9 #[.string a, .bool false] W fun e w' => e = .returned (.string T) ∧ W = w')
    (cr : ∀ W, Calls Try.prog 11 #[.string a] W fun e w' => e = .returned (.string R) ∧ Below W.heap.size W w')
    (dr : ∀ W, Calls Try.prog 9 #[.string a, .bool true] W fun e w' => e = .returned (.string R) ∧ W = w')
    (cb : ∀ W, Calls Try.prog 12 #[.string a] W fun e w' => e = .returned (.bool q0) ∧ Below W.heap.size W w')
    (cl : ∀ W, Calls Try.prog 13 #[.string a] W fun e w' => e = .returned (.string LA) ∧ Below W.heap.size W w')
    (dla : ∀ W, Calls Try.prog 14 #[.string a] W fun e w' => e = .returned (.string LA) ∧ Below W.heap.size W w')
    (dlb : ∀ W, Calls Try.prog 14 #[.string b] W fun e w' => e = .returned (.string LB) ∧ Below W.heap.size W w')
    (ck : ∀ W, Calls Try.prog 15 #[.string a] W fun e w' => e = .returned (.bool tk) ∧ Below W.heap.size W w')
    (dk : ∀ W, Calls Try.prog 16 #[.string a] W fun e w' => e = .returned (.bool tk) ∧ W = w')
    (cf : ∀ W, Calls Try.prog 17 #[.string a, .string b] W fun e w' => e = .returned (.bool q5) ∧ Below W.heap.size W w')
    (e0 : T.toList.isEmpty = q0) (e5 : (LA.toList == LB.toList) = q5) :
    Calls Try.prog 3 #[.string a, .string b, .int .u8 sep] w fun e w' => e = .returned (.bool true) ∧ Below w.heap.size w w' := by
  have HB := Below.refl w.heap.size w
  cases q0 <;> cases q5
  all_goals
    go_enter Try.func3, Try.ntmps3
    go_wp2_with (first
      | (go_at_call 6; refine (textAwake_yes _).mono ?_; rintro e w1 ⟨rfl, hb⟩; replace HB := HB.trans (hb.mono HB.size); clear hb)
      | (go_at_call 7; refine (cc _).mono ?_; rintro e w1 ⟨rfl, hb⟩; replace HB := HB.trans (hb.mono HB.size); clear hb)
      | (go_at_call 8; refine (dc _).mono ?_; rintro e w1 ⟨rfl, hb⟩; replace HB := HB.trans (hb.mono HB.size); clear hb)
      | (go_at_call 10; refine (ct _).mono ?_; rintro e w1 ⟨rfl, hb⟩; replace HB := HB.trans (hb.mono HB.size); clear hb)
      | (go_at_call 9; (first | (with_reducible refine (dt _).mono ?_) | (with_reducible refine (dr _).mono ?_)); rintro e w1 ⟨rfl, rfl⟩)
      | (go_at_call 11; refine (cr _).mono ?_; rintro e w1 ⟨rfl, hb⟩; replace HB := HB.trans (hb.mono HB.size); clear hb)
      | (go_at_call 12; refine (cb _).mono ?_; rintro e w1 ⟨rfl, hb⟩; replace HB := HB.trans (hb.mono HB.size); clear hb)
      | (go_at_call 13; refine (cl _).mono ?_; rintro e w1 ⟨rfl, hb⟩; replace HB := HB.trans (hb.mono HB.size); clear hb)
      | (go_at_call 14; (first | (with_reducible refine (dla _).mono ?_) | (with_reducible refine (dlb _).mono ?_)); rintro e w1 ⟨rfl, hb⟩; replace HB := HB.trans (hb.mono HB.size); clear hb)
      | (go_at_call 15; refine (ck _).mono ?_; rintro e w1 ⟨rfl, hb⟩; replace HB := HB.trans (hb.mono HB.size); clear hb)
      | (go_at_call 16; refine (dk _).mono ?_; rintro e w1 ⟨rfl, rfl⟩)
      | (go_at_call 17; refine (cf _).mono ?_; rintro e w1 ⟨rfl, hb⟩; replace HB := HB.trans (hb.mono HB.size); clear hb))
    go_ret
    exact ⟨rfl, HB⟩

theorem tells_any (a b : ByteArray) (sep : Int) (w : World) (_ : a.size ≤ maxLen) (_ : b.size ≤ maxLen) (h0 : 0 ≤ sep) (h1 : sep ≤ 255) :
    Calls Try.prog 3 #[.string a, .string b, .int .u8 sep] w fun e w' => e = .returned (.bool true) ∧ Below w.heap.size w w' := by
  by_cases hl : a.size ≤ 500 ∧ b.size ≤ 500
  · obtain ⟨hl1, hl2⟩ := hl
    obtain ⟨c, rfl⟩ : ∃ c : UInt8, sep = (c.toNat : Int) := ⟨UInt8.ofNat sep.toNat, by
      have : (UInt8.ofNat sep.toNat).toNat = sep.toNat % 256 := by simp
      omega⟩
    have hs1 : a.size ≤ 9223372036854775807 := by omega
    have hs2 : b.size ≤ 9223372036854775807 := by omega
    refine tells_walk a b (Str (Tx.trim a.data.toList)) (Str (Tx.right a.data.toList)) (Str (a.data.toList.map Tx.low)) (Str (b.data.toList.map Tx.low)) (Str (Tx.cut a.data.toList c).1) (Str (Tx.cut a.data.toList c).2.1) _ _ _ _ _ w hl1 hl2
      (fun W => cut_any a c W hs1) (fun W => refCut_any a c W hs1) (fun W => trim_any a W hs1) (fun W => refTrim_both a W hs1) (fun W => right_any a W hs1) (fun W => refTrim_right a W hs1) (fun W => blank_any a W)
      (fun W => lower_any a W hs1) (fun W => refLower_any a W (by omega)) (fun W => refLower_any b W (by omega)) (fun W => token_any a W hs1) (fun W => refToken_any a W hs1) (fun W => fold_any a b W hs1 hs2) ?_ (same_str _ _)
    rw [Lib.toList_data, str_list]
    by_cases h : Tx.left a.data.toList = []
    · rw [decide_eq_true h, Tx.trim_nil_iff.2 h]; rfl
    · rw [decide_eq_false h]
      have : ¬ Tx.trim a.data.toList = [] := fun e => h (Tx.trim_nil_iff.1 e)
      cases ht : Tx.trim a.data.toList with
      | nil => exact absurd ht this
      | cons x l => rfl
  · exact tells_long a b sep w (by omega)
end Go.Proofs.Ytgldgmmljigmdaa
