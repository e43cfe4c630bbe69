/-
  The walk of the statement CrangeNoughts.
-/
import Derived.Test.YtejmiodblfpkjaaDoorCrangeMath
import Derived.Test.YtejmiodblfpkjaaDoorCrangeOf
namespace Go.Proofs.YtejmiodblfpkjaaDoor
open Go.ChangeShapes Go.WideShapes Go.ChangeAt Go.RowKit

theorem crangeNoughts_out (a b n z : Int) (w : World) (ht : Tab w) (h : a < 0 ∨ b < a ∨ n ≤ b ∨ 1099511627776 < n ∨ z < 0 ∨ 20 < z) :
    Calls Tryd.prog 5 #[.int .i64 a, .int .i64 b, .int .i64 n, .int .i64 z] w fun e w' => e = .returned (.bool true) ∧ Below w.heap.size w w' := by
  have ca := crAwake_yes w ht
  have H : (a < 0) ∨ (0 ≤ a ∧ b < a) ∨ (0 ≤ a ∧ a ≤ b ∧ n ≤ b) ∨ (0 ≤ a ∧ a ≤ b ∧ b < n ∧ 1099511627776 < n) ∨ (0 ≤ a ∧ a ≤ b ∧ b < n ∧ n ≤ 1099511627776 ∧ z < 0) ∨ (0 ≤ a ∧ a ≤ b ∧ b < n ∧ n ≤ 1099511627776 ∧ 0 ≤ z ∧ 20 < z) := by omega
  clear h ht
  rcases H with H | ⟨h1, H⟩ | ⟨h1, h2, H⟩ | ⟨h1, h2, h3, H⟩ | ⟨h1, h2, h3, h4, H⟩ | ⟨h1, h2, h3, h4, h5, H⟩
  all_goals
    go_enter Tryd.func5, Tryd.ntmps5
    go_wp2_with (go_at_call 6; refine ca.mono ?_; rintro e w' ⟨rfl, hb⟩; clear ca)
    go_ret
    exact ⟨rfl, hb⟩

set_option maxHeartbeats 4000000 in
theorem crangeNoughts_in (a b n : Int) (k : Nat) (X : ByteArray) (w : World) (h1 : 0 ≤ a) (h2 : a ≤ b) (h3 : b < n) (h4 : n ≤ 1099511627776) (hk : k ≤ 20) (hX : 7 ≤ X.size) (hX2 : X.size ≤ 80) (ht : Tab w)
    (co : ∀ W, Below w.heap.size w W → Calls Tryd.prog 13 #[.agg #[.int .i64 a, .int .i64 (b + 1)], .int .i64 n] W fun e w' => e = .returned (.string X) ∧ Below W.heap.size W w')
    (cp : ∀ (Y : ByteArray) W, Y.data.toList = [66, 121, 84, 101, 83, 32] ++ List.replicate k 48 ++ X.data.toList.drop 6 → Calls Tryd.prog 7 #[.string Y] W fun e w' => e = .returned (.tuple #[.agg #[.bool true, .int .i64 a, .int .i64 (b + 1), .int .i64 n], .int .i64 0]) ∧ Below W.heap.size W w') :
    Calls Tryd.prog 5 #[.int .i64 a, .int .i64 b, .int .i64 n, .int .i64 k] w fun e w' => e = .returned (.bool true) ∧ Below w.heap.size w w' := by
  have ca := crAwake_yes w ht
  have CP := Lib.hid cp
  have HK : (k : Int) ≤ 20 := by omega
  clear cp ht
  go_enter Tryd.func5, Tryd.ntmps5
  go_wp2_with (go_at_call 6; refine ca.mono ?_; rintro e w1 ⟨rfl, HB⟩; clear ca)
  go_loopg [9, 10] k (fun g s9 s10 wx => ∃ (j : Nat) (t : ByteArray), j + g = k ∧ s10 = .int .i64 j ∧ s9 = .string t ∧ t.size = j ∧ Hid (t.data.toList = List.replicate j 48) ∧ wx = w1)
  case atStart => exact ⟨0, _, by omega, rfl, rfl, rfl, Lib.hid rfl, rfl⟩
  case round =>
    obtain ⟨j, t, hj, rfl, rfl, hl, HL, rfl⟩ := hrel
    by_cases hjk : j < k
    · obtain ⟨g', rfl⟩ : ∃ g', gk = g' + 1 := ⟨gk - 1, by omega⟩
      have hsum : t.size + 1 ≤ 9223372036854775807 := by omega
      have HL2 : Hid ((t ++ ByteArray.mk #[48]).data.toList = List.replicate (j + 1) 48) := Lib.hid (by rw [cat_list, HL.out, List.replicate_succ'])
      have HL3 := Lib.hid hl
      clear hl HL
      go_wp2
      go_roundg g'
      case measure => omega
      case rel => exact ⟨j + 1, _, by omega, by go_num, rfl, by rw [ByteArray.size_append, HL3.out]; rfl, HL2, rfl⟩
    · obtain rfl : j = k := by omega
      have s1 : 6 + t.size ≤ 9223372036854775807 := by omega
      have s2 : 6 + t.size + (X.size - 6) ≤ 9223372036854775807 := by omega
      have hx7 : (7 : Int) ≤ (X.size : Int) := by omega
      have e0 : (0 : Int) ≤ 6 := by omega
      have e1 : (6 : Int) ≤ (X.size : Int) := by omega
      have HY : Hid (({ data := #[66, 121, 84, 101, 83, 32] } ++ t ++ X.extract 6 X.size : ByteArray).data.toList = [66, 121, 84, 101, 83, 32] ++ List.replicate j 48 ++ X.data.toList.drop 6) := Lib.hid (by rw [cat_list, cat_list, HL.out, Lib.extract_to_end])
      clear HL
      go_wp2_with (first
        | (go_at_call 13; (with_reducible refine (co _ HB).mono ?_); rintro e w2 ⟨rfl, hb⟩; replace HB := HB.trans (hb.mono HB.size); clear hb)
        | (go_at_call 7; refine (CP.out _ _ HY.out).mono ?_; rintro e w3 ⟨rfl, hb⟩; replace HB := HB.trans (hb.mono HB.size); clear hb))
      go_ret
      exact ⟨by simp, HB.alloc HB.size _⟩

theorem crangeNoughts_walk (a b n z : Int) (w : World) (_ : -9223372036854775808 ≤ a) (_ : a ≤ 9223372036854775807) (_ : -9223372036854775808 ≤ b) (_ : b ≤ 9223372036854775807) (_ : -9223372036854775808 ≤ n) (_ : n ≤ 9223372036854775807)
    (_ : -9223372036854775808 ≤ z) (_ : z ≤ 9223372036854775807) (ht : Lib.TabIs Tryd.prog w "internal/strconv.uint64pow10" .u64 Lib.pow10Tab) :
    Calls Tryd.prog 5 #[.int .i64 a, .int .i64 b, .int .i64 n, .int .i64 z] w fun e w' => e = .returned (.bool true) ∧ Below w.heap.size w w' := by
  have htab : Tab w := Lib.tabBelow_of_tabIs ht
  by_cases h : a < 0 ∨ b < a ∨ n ≤ b ∨ 1099511627776 < n ∨ z < 0 ∨ 20 < z
  · exact crangeNoughts_out a b n z w htab h
  · obtain ⟨k, rfl⟩ : ∃ k : Nat, z = k := ⟨z.toNat, by omega⟩
    have h7 := Cr.noughts_len (a := a) (b := b) (n := n) (by omega) (by omega) (by omega) (by omega)
    have h8 := Cr.print_len true a (b + 1) n
    refine crangeNoughts_in a b n k (Str (Cr.printL true a (b + 1) n)) w (by omega) (by omega) (by omega) (by omega) (by omega) (by rw [str_size]; exact h7) (by rw [str_size]; exact h8) htab (fun W hb => of_any a (b + 1) n W (htab.on hb)) (fun Y W hY => ?_)
    rw [str_list] at hY
    have hl : Y.size ≤ maxLen := by
      rw [← size_list, hY]
      simp only [List.length_append, List.length_cons, List.length_nil, List.length_replicate, List.length_drop]
      unfold maxLen
      omega
    have := crParse_any Y W hl
    rw [hY, Cr.noughts (by omega) (by omega) (by omega) (by omega) k] at this
    exact this
end Go.Proofs.YtejmiodblfpkjaaDoor
