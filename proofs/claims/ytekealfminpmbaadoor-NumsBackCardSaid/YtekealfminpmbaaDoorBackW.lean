/-
  The walk of the statement NumsBack.
-/
import Derived.Test.YtekealfminpmbaaDoorParsesW
namespace Go.Proofs.YtekealfminpmbaaDoor
open Go.ChangeShapes Go.WideShapes Go.ChangeAt Go.RowKit

theorem parse_list (l : List UInt8) (p : Int × Int) (w : World) (hl : l.length ≤ 1000) (hp : Nm.parse l = p) :
    Calls Tryd.prog 6 #[.string ⟨l.toArray⟩] w fun e w' => e = .returned (.tuple #[.int .i64 p.1, .int .i64 p.2]) ∧ w = w' := by
  subst hp
  exact parse_any ⟨l.toArray⟩ w (by unfold maxLen; show l.toArray.size ≤ _; simp; omega)

theorem back_out (n k : Int) (s : ByteArray) (w : World) (hs : s.size ≤ maxLen) (h : n < 0 ∨ 4611686018427387903 < n ∨ k < 0 ∨ 40 < k ∨ 100 < s.size) :
    Calls Tryd.prog 4 #[.int .i64 n, .int .i64 k, .string s] w fun e w' => e = .returned (.bool true) ∧ w = w' := by
  have ca := awake_yes w
  unfold maxLen at hs
  have H : (n < 0) ∨ (0 ≤ n ∧ 4611686018427387903 < n) ∨ (0 ≤ n ∧ n ≤ 4611686018427387903 ∧ k < 0) ∨ (0 ≤ n ∧ n ≤ 4611686018427387903 ∧ 0 ≤ k ∧ 40 < k) ∨ (0 ≤ n ∧ n ≤ 4611686018427387903 ∧ 0 ≤ k ∧ k ≤ 40 ∧ (100 : Int) < (s.size : Int)) := by omega
  clear h
  rcases H with H | ⟨h1, H⟩ | ⟨h1, h2, H⟩ | ⟨h1, h2, h3, H⟩ | ⟨h1, h2, h3, h4, H⟩
  all_goals
    go_enter Tryd.func4, Tryd.ntmps4
    go_wp2_with (go_at_call 5; refine ca.mono ?_; rintro e w' ⟨rfl, rfl⟩; clear ca)
    go_ret
    exact ⟨rfl, rfl⟩

set_option maxHeartbeats 1000000 in
theorem back_in (u k : Nat) (s : ByteArray) (w : World) (hu : u ≤ 4611686018427387903) (hk : k ≤ 40) (hs : s.size ≤ 100) (htab : Lib.TabIs Tryd.prog w "internal/strconv.uint64pow10" .u64 Lib.pow10Tab) :
    Calls Tryd.prog 4 #[.int .i64 u, .int .i64 k, .string s] w fun e w' => e = .returned (.bool true) ∧ Below w.heap.size w w' := by
  have ca := awake_yes w
  have hum : (u : Int) ≤ Nm.maxNum := by unfold Nm.maxNum; omega
  have hu1 : (u : Int) ≤ 4611686018427387903 := by omega
  have hk1 : (k : Int) ≤ 40 := by omega
  have hs1 : (s.size : Int) ≤ 100 := by omega
  have cp := print_any u w (by omega) (by omega) htab
  rw [Lib.itoa_nonneg] at cp
  have hdl : (Lib.decDigits u).length ≤ 20 := by rw [Lib.decDigits_length]; exact Lib.nDigits_le20 _ (by omega)
  have ct := fun w => parse_list (Lib.decDigits u) (u, 0) w (by omega) (Nm.parse_dec hum)
  have cz := fun l (hl : l.length ≤ 1000) (he : l = List.replicate k 48 ++ Lib.decDigits u) w => parse_list l (u, 0) w hl (by rw [he]; exact Nm.parse_noughts k hum)
  have cs := fun w => parse_any s w (by unfold maxLen; omega)
  have ho : ∀ p, Nm.parse s.data.toList = p → p = ((u : Int), 0) → s.data.toList = Lib.decDigits u ∨ ((Lib.decDigits u).length < s.data.toList.length ∧ s.data.toList[0]? = some 48) := by
    intro p h1 h2
    exact Nm.parse_only (h1.trans h2)
  generalize hp : Nm.parse s.data.toList = p at *
  obtain ⟨p1, p2⟩ := p
  generalize Lib.decDigits u = D at *
  have HCT := Lib.hid ct
  have HCZ := Lib.hid cz
  have HCS := Lib.hid cs
  have HO := Lib.hid (ho _ rfl)
  clear ct cz cs ho hp htab hu hk hs hum
  go_enter Tryd.func4, Tryd.ntmps4
  go_wp2_with (first | (go_at_call 5; refine ca.mono ?_; rintro e w' ⟨rfl, rfl⟩; clear ca) | (go_at_call 8; refine cp.mono ?_; rintro e w1 ⟨rfl, HB⟩; clear cp))
  go_loopg [8, 9] k (fun g s8 s9 wx => ∃ (j : Nat) (l : List UInt8), j + g = k ∧ s9 = .int .i64 j ∧ s8 = .string ⟨l.toArray⟩ ∧ l.length = j + D.length ∧ Hid (l = List.replicate j 48 ++ D) ∧ wx = w1)
  case atStart => exact ⟨0, D, by omega, rfl, rfl, by omega, Lib.hid (by simp), rfl⟩
  case round =>
    obtain ⟨j, l, hj, rfl, rfl, hl, HL, rfl⟩ := hrel
    by_cases hjk : j < k
    · obtain ⟨g', rfl⟩ : ∃ g', gk = g' + 1 := ⟨gk - 1, by omega⟩
      have hsum : 1 + l.length ≤ 9223372036854775807 := by omega
      have HL2 : Hid ((48 : UInt8) :: l = List.replicate (j + 1) 48 ++ D) := Lib.hid (by rw [HL.out, List.replicate_succ, List.cons_append])
      have HL3 := Lib.hid hl
      clear hl HL
      go_wp2
      go_roundg g'
      case measure => omega
      case rel => exact ⟨j + 1, _, by omega, by go_num, congrArg Value.string (cat_one _ _), by have := HL3.out; rw [List.length_cons]; omega, HL2, rfl⟩
    · obtain rfl : j = k := by omega
      have c1 := HCT.out wr
      have c2 := HCZ.out l (by omega) HL.out wr
      have c3 := HCS.out wr
      have HL3 := Lib.hid hl
      clear HCT HCZ HCS hl HL
      by_cases h2 : p2 = 0
      · subst h2
        by_cases h1 : p1 = u
        · subst h1
          rcases HO.out rfl with he | ⟨hlen, hz⟩
          · obtain rfl : s = ⟨D.toArray⟩ := WideShapes.bytes_inj (by rw [he])
            clear he HO
            go_wp2_with (go_at_call 6; first | (refine c1.mono ?_; rintro e w' ⟨rfl, rfl⟩; clear c1) | (refine c2.mono ?_; rintro e w' ⟨rfl, rfl⟩; clear c2) | (refine c3.mono ?_; rintro e w' ⟨rfl, rfl⟩; clear c3))
            all_goals (go_ret; exact ⟨rfl, HB⟩)
          · have hz0 : 0 < s.size := by
              have : s.data.toList.length = s.size := by simp
              omega
            have hlen' : (D.length : Int) < (s.size : Int) := by
              have : s.data.toList.length = s.size := by simp
              omega
            have hb : ((s[0].toNat : Int) == 48) = true := by
              have e : s.data.toList = s[0] :: s.data.toList.drop 1 := Nm.drop_cons s 0 hz0
              rw [e] at hz
              have e2 : s[0] = 48 := by simpa using hz
              rw [e2]; rfl
            clear hz hlen HO
            go_wp2_with (go_at_call 6; first | (refine c1.mono ?_; rintro e w' ⟨rfl, rfl⟩; clear c1) | (refine c2.mono ?_; rintro e w' ⟨rfl, rfl⟩; clear c2) | (refine c3.mono ?_; rintro e w' ⟨rfl, rfl⟩; clear c3))
            all_goals (go_ret; exact ⟨rfl, HB⟩)
        · have hg : (p1 == (u : Int)) = false := by rw [beq_eq_false_iff_ne]; exact h1
          have hg' : (p1 != (u : Int)) = true := by rw [bne_iff_ne]; exact h1
          clear h1
          go_wp2_with (go_at_call 6; first | (refine c1.mono ?_; rintro e w' ⟨rfl, rfl⟩; clear c1) | (refine c2.mono ?_; rintro e w' ⟨rfl, rfl⟩; clear c2) | (refine c3.mono ?_; rintro e w' ⟨rfl, rfl⟩; clear c3))
          go_ret
          exact ⟨rfl, HB⟩
      · have hg : (p2 == 0) = false := by rw [beq_eq_false_iff_ne]; exact h2
        have hg' : (p2 != 0) = true := by rw [bne_iff_ne]; exact h2
        clear h2
        go_wp2_with (go_at_call 6; first | (refine c1.mono ?_; rintro e w' ⟨rfl, rfl⟩; clear c1) | (refine c2.mono ?_; rintro e w' ⟨rfl, rfl⟩; clear c2) | (refine c3.mono ?_; rintro e w' ⟨rfl, rfl⟩; clear c3))
        go_ret
        exact ⟨rfl, HB⟩

theorem back_walk (n k : Int) (s : ByteArray) (w : World) (n0 : -9223372036854775808 ≤ n) (n1 : n ≤ 9223372036854775807) (k0 : -9223372036854775808 ≤ k) (k1 : k ≤ 9223372036854775807) (hs : s.size ≤ maxLen) (htab : Lib.TabIs Tryd.prog w "internal/strconv.uint64pow10" .u64 Lib.pow10Tab) :
    Calls Tryd.prog 4 #[.int .i64 n, .int .i64 k, .string s] w fun e w' => e = .returned (.bool true) ∧ Below w.heap.size w w' := by
  by_cases h : n < 0 ∨ 4611686018427387903 < n ∨ k < 0 ∨ 40 < k ∨ 100 < s.size
  · exact (back_out n k s w hs h).mono fun _ _ ⟨he, hw⟩ => ⟨he, hw ▸ Below.refl _ _⟩
  · obtain ⟨u, rfl⟩ : ∃ u : Nat, n = u := ⟨n.toNat, by omega⟩
    obtain ⟨j, rfl⟩ : ∃ j : Nat, k = j := ⟨k.toNat, by omega⟩
    exact back_in u j s w (by omega) (by omega) (by omega) htab
end Go.Proofs.YtekealfminpmbaaDoor
