/-
  Contracts of the document's own bare and less: digits without noughts ahead, and which of two such texts tells less.
-/
import Derived.Test.YtokknicfnnkldaaDoorRRSpecMath
import Derived.Test.YtokknicfnnkldaaDoorRRTextTrim
namespace Go.Proofs.YtokknicfnnkldaaDoorRR
open Go.ChangeShapes Go.WideShapes Go.ChangeAt Go.RowKit

theorem nought_yes {c : UInt8} (h : c = 48) : ((c.toNat : Int) == 48) = true := by rw [h]; rfl
theorem nought_no {c : UInt8} (h : ¬ c = 48) : ((c.toNat : Int) == 48) = false := by
  rw [beq_eq_false_iff_ne]
  intro e
  exact h (UInt8.toNat_inj.1 (by have : (48 : UInt8).toNat = 48 := rfl; omega))

theorem refBare_any (s : ByteArray) (w : World) :
    Calls Tryd.prog 34 #[.string s] w fun e w' => e = .returned (.string (Str (Sp.bare s.data.toList))) ∧ w = w' := by
  go_enter Tryd.func34, Tryd.ntmps34
  go_wp2
  go_loop [0] (fun s0 => ∃ t : ByteArray, s0 = .string t ∧ Hid (Sp.bare t.data.toList = Sp.bare s.data.toList)) (fun s0 => strSize s0)
  case atStart => exact ⟨s, rfl, Lib.hid rfl⟩
  case round =>
    obtain ⟨t, rfl, HL⟩ := hrel
    by_cases h0 : t.size = 0
    · have hn : t.data.toList = [] := List.eq_nil_of_length_eq_zero (by rw [size_list, h0])
      have H : Hid (t.data.toList = Sp.bare s.data.toList) := Lib.hid (by rw [← HL.out, hn]; rfl)
      have hlt : (t.size : Int) ≤ 0 := by omega
      clear HL hn
      go_wp2
      go_ret
      exact ⟨ret_of H.out, rfl⟩
    · have hp : 0 < t.size := by omega
      have HC := Lib.hid (list_cons hp)
      clear h0
      by_cases hb : t[0] = 48
      · have hz := nought_yes hb
        have H : Hid (Sp.bare (t.extract 1 t.size).data.toList = Sp.bare s.data.toList) := Lib.hid (by rw [← HL.out, tail_list]; conv => rhs; rw [HC.out, Sp.bare_yes hb])
        clear hb HC HL
        go_wp2
        go_round
        case rel => exact ⟨_, rfl, H⟩
        case measure => simp [strSize]; omega
      · have hz := nought_no hb
        have H : Hid (t.data.toList = Sp.bare s.data.toList) := Lib.hid (by rw [← HL.out, HC.out, Sp.bare_no hb])
        clear hb HC HL
        go_wp2
        go_ret
        exact ⟨ret_of H.out, rfl⟩

/-- the comparison of two texts, in the walk's spelling -/
theorem less_walk (A B : List UInt8) : (if A.length = B.length then Op.bytesLess A B else decide (A.length < B.length)) = if (A.length : Int) = (B.length : Int) then Op.bytesLess (Str A).toList (Str B).toList else decide (A.length < B.length) := by
  rw [Lib.toList_data, Lib.toList_data, str_list, str_list]
  by_cases h : A.length = B.length
  · rw [if_pos h, if_pos (by omega)]
  · rw [if_neg h, if_neg (by omega)]

theorem refLess_any (a b : ByteArray) (w : World) :
    Calls Tryd.prog 25 #[.string a, .string b] w fun e w' => e = .returned (.bool (Sp.less a.data.toList b.data.toList)) ∧ w = w' := by
  have ca := fun W => refBare_any a W
  have cb := fun W => refBare_any b W
  have HQ : Hid (Sp.less a.data.toList b.data.toList = _) := Lib.hid (less_walk (Sp.bare a.data.toList) (Sp.bare b.data.toList))
  obtain ⟨A, hA⟩ : ∃ A, A = Str (Sp.bare a.data.toList) := ⟨_, rfl⟩
  obtain ⟨B, hB⟩ : ∃ B, B = Str (Sp.bare b.data.toList) := ⟨_, rfl⟩
  rw [show (Sp.bare a.data.toList).length = A.size by rw [hA]; rfl, show (Sp.bare b.data.toList).length = B.size by rw [hB]; rfl, ← hA, ← hB] at HQ
  rw [← hA] at ca
  rw [← hB] at cb
  clear hA hB
  by_cases h : (A.size : Int) = (B.size : Int)
  · have he : ((A.size : Int) == (B.size : Int)) = true := beq_iff_eq.2 h
    have he2 := ne_of he
    have H : Hid (Op.bytesLess A.toList B.toList = Sp.less a.data.toList b.data.toList) := Lib.hid (by rw [HQ.out, if_pos h])
    clear HQ h
    go_enter Tryd.func25, Tryd.ntmps25
    go_wp2_with (go_at_call 34; (first | (with_reducible refine (ca _).mono ?_) | (with_reducible refine (cb _).mono ?_)); rintro e w' ⟨rfl, rfl⟩)
    go_ret
    exact ⟨ret_bool H.out, rfl⟩
  · have he : ((A.size : Int) == (B.size : Int)) = false := beq_eq_false_iff_ne.2 h
    have he2 := ne_of he
    have H : Hid (decide (A.size < B.size) = Sp.less a.data.toList b.data.toList) := Lib.hid (by rw [HQ.out, if_neg h])
    clear HQ h
    go_enter Tryd.func25, Tryd.ntmps25
    go_wp2_with (go_at_call 34; (first | (with_reducible refine (ca _).mono ?_) | (with_reducible refine (cb _).mono ?_)); rintro e w' ⟨rfl, rfl⟩)
    go_ret
    exact ⟨ret_bool H.out, rfl⟩
end Go.Proofs.YtokknicfnnkldaaDoorRR
