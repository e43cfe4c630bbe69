/-
  Contracts of the document's own answers for texts: Blank, Trim.
-/
import Derived.Test.YtokknicfnnkldaaDoorRRTextTrim
namespace Go.Proofs.YtokknicfnnkldaaDoorRR
open Go.ChangeShapes Go.WideShapes Go.ChangeAt Go.RowKit

theorem blank_int (c : UInt8) : Tx.blank c = (((c.toNat : Int) == 32) || ((c.toNat : Int) == 9)) := by
  have h (n : UInt8) : (c == n) = ((c.toNat : Int) == (n.toNat : Int)) := by
    rw [Bool.eq_iff_iff, beq_iff_eq, beq_iff_eq]
    exact ⟨fun e => by rw [e], fun e => UInt8.toNat_inj.1 (by omega)⟩
  unfold Tx.blank
  rw [h, h]
  rfl
theorem refBlank_any (c : UInt8) (w : World) :
    Calls Tryd.prog 23 #[.int .u8 (c.toNat : Int)] w fun e w' => e = .returned (.bool (Tx.blank c)) ∧ w = w' := by
  rw [blank_int]
  by_cases h : (c.toNat : Int) = 32
  · have h1 : ((c.toNat : Int) == 32) = true := beq_iff_eq.2 h
    clear h
    go_enter Tryd.func23, Tryd.ntmps23
    go_wp2
    go_ret
    exact ⟨ret_bool (by rw [h1]; rfl), rfl⟩
  · have h1 : ((c.toNat : Int) == 32) = false := beq_eq_false_iff_ne.2 h
    clear h
    go_enter Tryd.func23, Tryd.ntmps23
    go_wp2
    go_ret
    exact ⟨ret_bool (by rw [h1]; rfl), rfl⟩
theorem refBlank_if {c : UInt8} {b : Bool} (h : Tx.blank c = b) (w : World) :
    Calls Tryd.prog 23 #[.int .u8 (c.toNat : Int)] w fun e w' => e = .returned (.bool b) ∧ w = w' := by
  subst h
  exact refBlank_any c w

set_option maxHeartbeats 1000000 in
/-- without blanks behind -/
theorem refTrim_right (s : ByteArray) (w : World) (hs : s.size ≤ 9223372036854775807) :
    Calls Tryd.prog 12 #[.string s, .bool true] w fun e w' => e = .returned (.string (Str (Tx.right s.data.toList))) ∧ w = w' := by
  go_enter Tryd.func12, Tryd.ntmps12
  go_wp2
  go_loop [0] (fun s0 => ∃ t : ByteArray, s0 = .string t ∧ t.size ≤ s.size ∧ Hid (Tx.right t.data.toList = Tx.right s.data.toList)) (fun s0 => strSize s0)
  case atStart => exact ⟨s, rfl, Nat.le_refl _, Lib.hid rfl⟩
  case round =>
    obtain ⟨t, rfl, hts, HL⟩ := hrel
    by_cases h0 : t.size = 0
    · have hn : t.data.toList = [] := List.eq_nil_of_length_eq_zero (by rw [size_list, h0])
      have H : Hid (t.data.toList = Tx.right s.data.toList) := Lib.hid (by rw [← HL.out, hn]; rfl)
      have hlt : (t.size : Int) ≤ 0 := by omega
      clear HL hn
      go_wp2
      go_loop [0] (fun s0 => s0 = .string t) (fun _ => 0)
      case atStart => exact rfl
      case round =>
        obtain rfl := hrel
        go_wp2
        go_ret
        exact ⟨ret_of H.out, rfl⟩
    · have hp : 0 < t.size := by omega
      have HC := Lib.hid (list_snoc hp)
      clear h0
      cases hb : Tx.blank t[t.size - 1] with
      | true =>
        have co := fun W => refBlank_if hb W
        have H : Hid (Tx.right (t.extract 0 (t.size - 1)).data.toList = Tx.right s.data.toList) := Lib.hid (by rw [← HL.out, init_list]; conv => rhs; rw [HC.out, Tx.right_yes hb])
        clear hb HC HL
        go_wp2_with (go_at_call 23; refine (co _).mono ?_; rintro e w1 ⟨rfl, rfl⟩; clear co)
        go_round
        case rel => exact ⟨_, rfl, by simp; omega, H⟩
        case measure => simp [strSize]; omega
      | false =>
        have co := fun W => refBlank_if hb W
        have H : Hid (t.data.toList = Tx.right s.data.toList) := Lib.hid (by rw [← HL.out, HC.out, Tx.right_no hb])
        clear hb HC HL
        go_wp2_with (go_at_call 23; refine (co _).mono ?_; rintro e w1 ⟨rfl, rfl⟩; clear co)
        go_loop [0] (fun s0 => s0 = .string t) (fun _ => 0)
        case atStart => exact rfl
        case round =>
          obtain rfl := hrel
          go_wp2
          go_ret
          exact ⟨ret_of H.out, rfl⟩

set_option maxHeartbeats 2000000 in
/-- without blanks at both ends -/
theorem refTrim_both (s : ByteArray) (w : World) (hs : s.size ≤ 9223372036854775807) :
    Calls Tryd.prog 12 #[.string s, .bool false] w fun e w' => e = .returned (.string (Str (Tx.trim s.data.toList))) ∧ w = w' := by
  go_enter Tryd.func12, Tryd.ntmps12
  go_wp2
  go_loop [0] (fun s0 => ∃ t : ByteArray, s0 = .string t ∧ t.size ≤ s.size ∧ Hid (Tx.right t.data.toList = Tx.right s.data.toList)) (fun s0 => strSize s0)
  case atStart => exact ⟨s, rfl, Nat.le_refl _, Lib.hid rfl⟩
  case round =>
    obtain ⟨t, rfl, hts, HL⟩ := hrel
    by_cases h0 : t.size = 0
    · have hn : t.data.toList = [] := List.eq_nil_of_length_eq_zero (by rw [size_list, h0])
      have HT : Hid (Tx.left t.data.toList = Tx.trim s.data.toList) := Lib.hid (by unfold Tx.trim; rw [← HL.out, hn]; rfl)
      have hlt : (t.size : Int) ≤ 0 := by omega
      clear HL hn
      go_wp2
      go_loop [0] (fun s0 => ∃ u : ByteArray, s0 = .string u ∧ Hid (Tx.left u.data.toList = Tx.trim s.data.toList)) (fun s0 => strSize s0)
      case atStart => exact ⟨t, rfl, HT⟩
      case round =>
        obtain ⟨u, rfl, HU⟩ := hrel
        by_cases h0 : u.size = 0
        · have hn : u.data.toList = [] := List.eq_nil_of_length_eq_zero (by rw [size_list, h0])
          have H : Hid (u.data.toList = Tx.trim s.data.toList) := Lib.hid (by rw [← HU.out, hn]; rfl)
          have hlt : (u.size : Int) ≤ 0 := by omega
          clear HU hn
          go_wp2
          go_ret
          exact ⟨ret_of H.out, rfl⟩
        · have hp : 0 < u.size := by omega
          have HC := Lib.hid (list_cons hp)
          clear h0
          cases hb : Tx.blank u[0] with
          | true =>
            have co := fun W => refBlank_if hb W
            have H : Hid (Tx.left (u.extract 1 u.size).data.toList = Tx.trim s.data.toList) := Lib.hid (by rw [← HU.out, tail_list]; conv => rhs; rw [HC.out, Tx.left_yes hb])
            clear hb HC HU
            go_wp2_with (go_at_call 23; refine (co _).mono ?_; rintro e w1 ⟨rfl, rfl⟩; clear co)
            go_round
            case rel => exact ⟨_, rfl, H⟩
            case measure => simp [strSize]; omega
          | false =>
            have co := fun W => refBlank_if hb W
            have H : Hid (u.data.toList = Tx.trim s.data.toList) := Lib.hid (by rw [← HU.out, HC.out, Tx.left_no hb])
            clear hb HC HU
            go_wp2_with (go_at_call 23; refine (co _).mono ?_; rintro e w1 ⟨rfl, rfl⟩; clear co)
            go_ret
            exact ⟨ret_of H.out, rfl⟩
    · have hp : 0 < t.size := by omega
      have HC := Lib.hid (list_snoc hp)
      clear h0
      cases hb : Tx.blank t[t.size - 1] with
      | true =>
        have co := fun W => refBlank_if hb W
        have H : Hid (Tx.right (t.extract 0 (t.size - 1)).data.toList = Tx.right s.data.toList) := Lib.hid (by rw [← HL.out, init_list]; conv => rhs; rw [HC.out, Tx.right_yes hb])
        clear hb HC HL
        go_wp2_with (go_at_call 23; refine (co _).mono ?_; rintro e w1 ⟨rfl, rfl⟩; clear co)
        go_round
        case rel => exact ⟨_, rfl, by simp; omega, H⟩
        case measure => simp [strSize]; omega
      | false =>
        have co := fun W => refBlank_if hb W
        have HT : Hid (Tx.left t.data.toList = Tx.trim s.data.toList) := Lib.hid (by unfold Tx.trim; rw [← HL.out]; conv => rhs; rw [HC.out, Tx.right_no hb, ← HC.out])
        clear hb HC HL
        go_wp2_with (go_at_call 23; refine (co _).mono ?_; rintro e w1 ⟨rfl, rfl⟩; clear co)
        go_loop [0] (fun s0 => ∃ u : ByteArray, s0 = .string u ∧ Hid (Tx.left u.data.toList = Tx.trim s.data.toList)) (fun s0 => strSize s0)
        case atStart => exact ⟨t, rfl, HT⟩
        case round =>
          obtain ⟨u, rfl, HU⟩ := hrel
          by_cases h0 : u.size = 0
          · have hn : u.data.toList = [] := List.eq_nil_of_length_eq_zero (by rw [size_list, h0])
            have H : Hid (u.data.toList = Tx.trim s.data.toList) := Lib.hid (by rw [← HU.out, hn]; rfl)
            have hlt : (u.size : Int) ≤ 0 := by omega
            clear HU hn
            go_wp2
            go_ret
            exact ⟨ret_of H.out, rfl⟩
          · have hp : 0 < u.size := by omega
            have HC := Lib.hid (list_cons hp)
            clear h0
            cases hb : Tx.blank u[0] with
            | true =>
              have co := fun W => refBlank_if hb W
              have H : Hid (Tx.left (u.extract 1 u.size).data.toList = Tx.trim s.data.toList) := Lib.hid (by rw [← HU.out, tail_list]; conv => rhs; rw [HC.out, Tx.left_yes hb])
              clear hb HC HU
              go_wp2_with (go_at_call 23; refine (co _).mono ?_; rintro e w1 ⟨rfl, rfl⟩; clear co)
              go_round
              case rel => exact ⟨_, rfl, H⟩
              case measure => simp [strSize]; omega
            | false =>
              have co := fun W => refBlank_if hb W
              have H : Hid (u.data.toList = Tx.trim s.data.toList) := Lib.hid (by rw [← HU.out, HC.out, Tx.left_no hb])
              clear hb HC HU
              go_wp2_with (go_at_call 23; refine (co _).mono ?_; rintro e w1 ⟨rfl, rfl⟩; clear co)
              go_ret
              exact ⟨ret_of H.out, rfl⟩
end Go.Proofs.YtokknicfnnkldaaDoorRR
