/-
  The walk of the statement on elements, made one text.
-/
import Derived.Test.YtgldgmmljigmdaaMakesMath
import Derived.Test.YtgldgmmljigmdaaTextAwake
import Derived.Test.YtgldgmmljigmdaaRefText
import Derived.Test.YtgldgmmljigmdaaRowVals
import Derived.Test.YtgldgmmljigmdaaListsW
import Derived.Deep.DeepCutAuto
namespace Go.Proofs.Ytgldgmmljigmdaa
open Go.ChangeShapes Go.WideShapes Go.ChangeAt Go.RowKit

theorem makes_out (A A2 : Option Addr) (n c n2 c2 : Nat) (w : World) (h : n = 0 ∨ (n ≠ 0 ∧ 20 < n) ∨ (n ≠ 0 ∧ n ≤ 20 ∧ 40 < n2)) :
    Calls Try.prog 5 #[.slice A n c, .slice A2 n2 c2] w fun e w' => e = .returned (.bool true) ∧ Below w.heap.size w w' := by
  rcases h with h | ⟨h0, h1⟩ | ⟨h0, h1, h2⟩
  · have h0 : ((n : Int) == 0) = true := by rw [h]; rfl
    clear h
    go_enter Try.func5, Try.ntmps5
    go_wp2_with (go_at_call 6; refine (textAwake_yes _).mono ?_; rintro e w' ⟨rfl, hb1⟩)
    go_ret
    exact ⟨rfl, hb1⟩
  all_goals
    have h0 : ((n : Int) == 0) = false := by rw [beq_eq_false_iff_ne]; omega
    go_enter Try.func5, Try.ntmps5
    go_wp2_with (go_at_call 6; refine (textAwake_yes _).mono ?_; rintro e w' ⟨rfl, hb1⟩)
    go_ret
    exact ⟨rfl, hb1⟩

theorem str_cat (a b : ByteArray) : (a ++ b).data.toList = a.data.toList ++ b.data.toList := by simp
theorem size_three (a b c : ByteArray) {m : Nat} (h : b.size = m) : (a ++ b ++ c).size = a.size + m + c.size := by rw [ByteArray.size_append, ByteArray.size_append, h]
theorem pick_last {l : List (List UInt8)} {k : Nat} (h : k < l.length) : l.take (k + 1) = l.take k ++ [l[k]] := List.take_succ_eq_append_getElem h

set_option maxRecDepth 100000 in
set_option maxHeartbeats 8000000 in
theorem makes_in (A A2 : Option Addr) (n c n2 c2 : Nat) (l : List (List UInt8)) (zs : List Int) (w : World) (hv : Vs w w.heap.size A n (strs l)) (hz : Vs w w.heap.size A2 n2 (nums .i64 zs)) (hl : ∀ x ∈ l, x.length ≤ maxLen)
    (h0 : n ≠ 0) (h1 : n ≤ 20) (h2 : n2 ≤ 40) :
    Calls Try.prog 5 #[.slice A n c, .slice A2 n2 c2] w fun e w' => e = .returned (.bool true) ∧ Below w.heap.size w w' := by
  have HV := Lib.hid hv
  have HZ := Lib.hid hz
  have HN : Hid (l.length = n) := Lib.hid (by have := hv.1; rwa [strs_length] at this)
  have HX := Lib.hid hl
  have e0 : ((n : Int) == 0) = false := by rw [beq_eq_false_iff_ne]; omega
  have d20 : decide ((20 : Int) < (n : Int)) = false := decide_eq_false (by omega)
  have d40 : decide ((40 : Int) < (n2 : Int)) = false := decide_eq_false (by omega)
  clear hv hz hl
  go_enter Try.func5, Try.ntmps5
  go_wp2_with (go_at_call 6; refine (textAwake_yes _).mono ?_; rintro e w1 ⟨rfl, hb1⟩)
  clear e0 d20 d40
  go_loopg [5, 31] n (fun gh v i wr => ∃ (k : Nat) (t : ByteArray), i = .int .i64 k ∧ v = .string t ∧ k + gh = n ∧ t.size ≤ 40 * k ∧ Hid (Tx.Made (l.take k) t.data.toList) ∧ Below w.heap.size w wr)
  case atStart => exact ⟨0, _, rfl, rfl, by omega, Nat.le_refl 0, Lib.hid (.inl ⟨rfl, rfl⟩), hb1⟩
  case round =>
    obtain ⟨k, t, rfl, rfl, hkg, ht, HM, HB⟩ := hrel
    clear hb1
    by_cases hlt : k < n
    · obtain ⟨g', rfl⟩ : ∃ g', gk = g' + 1 := ⟨gk - 1, by omega⟩
      have hkl : k < l.length := by rw [HN.out]; exact hlt
      obtain ⟨bk, off, rfl, hbB, hcells⟩ := (HV.out.below HB).2 (by omega)
      have hcell := hcells k (by rw [strs_length]; exact hkl)
      rw [strs_get _ _ _ hkl] at hcell
      obtain ⟨X, hX⟩ : ∃ X, X = Str l[k] := ⟨_, rfl⟩
      have hXl : X.data.toList = l[k] := by rw [hX, str_list]
      rw [← hX] at hcell
      have hxs : X.size ≤ 9223372036854775807 := by
        have := HX.out _ (List.getElem_mem hkl)
        rw [← hXl, size_list] at this
        unfold maxLen at this
        exact this
      have HXl := Lib.hid hXl
      obtain ⟨⟨a, b, f⟩, hc⟩ : ∃ p, Tx.cut l[k] 44 = p := ⟨_, rfl⟩
      have cc : ∀ W, Calls Try.prog 8 #[.string X, .int .u8 44] W fun e w' => e = .returned (.tuple #[.string (Str a), .string (Str b), .bool f]) ∧ Below W.heap.size W w' := fun W => by
        have := refCut_any X 44 W hxs
        unfold CutTo at this
        rwa [hXl, hc] at this
      have ct : ∀ W, Calls Try.prog 9 #[.string X, .bool false] W fun e w' => e = .returned (.string (Str (Tx.trim l[k]))) ∧ W = w' := fun W => by
        have := refTrim_both X W hxs
        rwa [hXl] at this
      clear hcells hX
      by_cases hx0 : X.size = 0
      · have he := isEmpty_of (t := X) (List.eq_nil_of_length_eq_zero (by rw [size_list, hx0]))
        clear hx0 hXl hc
        clear HM HX HXl HN HZ HV
        go_wp2_with (first
          | (go_at_call 8; refine (cc _).mono ?_; rintro e w2 ⟨rfl, hb2⟩)
          | (go_at_call 9; refine (ct _).mono ?_; rintro e w3 ⟨rfl, rfl⟩))
        go_ret
        exact ⟨rfl, HB.trans (hb2.mono HB.size)⟩
      have hp : 0 < X.size := by omega
      have he := isEmpty_no hp
      clear hx0
      by_cases h30 : 30 < X.size
      · clear hXl hc
        clear HM HX HXl HN HZ HV
        go_wp2_with (first
          | (go_at_call 8; refine (cc _).mono ?_; rintro e w2 ⟨rfl, hb2⟩)
          | (go_at_call 9; refine (ct _).mono ?_; rintro e w3 ⟨rfl, rfl⟩))
        go_ret
        exact ⟨rfl, HB.trans (hb2.mono HB.size)⟩
      have d30 : decide ((30 : Int) < (X.size : Int)) = false := decide_eq_false (by omega)
      cases f with
      | true =>
        clear hXl hc
        clear HM HX HXl HN HZ HV
        go_wp2_with (first
          | (go_at_call 8; refine (cc _).mono ?_; rintro e w2 ⟨rfl, hb2⟩)
          | (go_at_call 9; refine (ct _).mono ?_; rintro e w3 ⟨rfl, rfl⟩))
        go_ret
        exact ⟨rfl, HB.trans (hb2.mono HB.size)⟩
      | false =>
        by_cases hT : Tx.trim l[k] = l[k]
        · have hTX : Str (Tx.trim l[k]) = X := by rw [hT, ← hXl, ← str_of (t := X) rfl]
          rw [hTX] at ct
          have hE : Tx.Elem l[k] := ⟨fun e => by rw [← hXl] at e; have := size_list X; rw [e] at this; simp at this; omega, fun e => by
            rcases Tx.cut_cases l[k] 44 with ⟨u, v, e', hn⟩ | hn
            · rw [e', Tx.cut_found hn] at hc
              simp at hc
            · exact hn e, hT⟩
          clear hTX hT hc
          rcases k with _ | j
          · rw [Nat.add_zero] at hcell
            have ht0 : t.data.toList = [] := List.eq_nil_of_length_eq_zero (by rw [size_list]; omega)
            have H : Hid (Tx.Made (l.take (0 + 1)) (t ++ X).data.toList) := Lib.hid (by
              rw [pick_last hkl, str_cat, ht0, hXl]
              exact Tx.made_first hE)
            clear HM hXl hE ht0 HX HXl HN HZ HV
            go_wp2_with (first
              | (go_at_call 8; refine (cc _).mono ?_; rintro e w2 ⟨rfl, hb2⟩)
              | (go_at_call 9; refine (ct _).mono ?_; rintro e w3 ⟨rfl, rfl⟩))
            go_roundg g'
            case measure => omega
            case rel => exact ⟨0 + 1, _, by go_num, rfl, by omega, by rw [ByteArray.size_append]; omega, H, HB.trans (hb2.mono HB.size)⟩
          · have HS : Hid (∀ sp : ByteArray, Tx.elems (t.data.toList ++ sp.data.toList ++ l[j + 1]) = Tx.elems t.data.toList ++ Tx.elems l[j + 1] → Tx.Made (l.take (j + 1 + 1)) (t ++ sp ++ X).data.toList) := Lib.hid fun sp hs => by
              rw [pick_last hkl, str_cat, str_cat, hXl]
              exact Tx.made_with HM.out (by intro e; have := congrArg List.length e; rw [List.length_take, Nat.min_eq_left (by omega), List.length_nil] at this; omega) hE hs
            clear HM hXl hE HX HXl HN HV
            by_cases hj : j < n2
            · obtain ⟨bz, oz, rfl, hbz, hzc⟩ := (HZ.out.below HB).2 (by omega)
              have hjz : j < zs.length := by have := HZ.out.1; rw [nums_length] at this; omega
              have hz0 := hzc j (by rw [nums_length]; exact hjz)
              rw [nums_get _ _ _ _ hjz] at hz0
              obtain ⟨z, hz⟩ : ∃ z, z = zs[j] := ⟨_, rfl⟩
              rw [← hz] at hz0
              have hbz2 : bz < wr.heap.size := Nat.lt_of_lt_of_le hbz HB.size
              clear hz hzc HZ hbz
              by_cases z1 : z = 1
              · subst z1
                have H := Lib.hid (HS.out ⟨#[32, 44, 32]⟩ (Tx.elems_sep1 _ _))
                clear HS
                go_wp2_with (first
                  | (go_at_call 8; refine (cc _).mono ?_; rintro e w2 ⟨rfl, hb2⟩; have hz1 := (hb2.cell (p := ⟨bz, oz + j, none⟩) hbz2).trans hz0)
                  | (go_at_call 9; refine (ct _).mono ?_; rintro e w3 ⟨rfl, rfl⟩))
                go_roundg g'
                case measure => omega
                case rel => exact ⟨j + 1 + 1, _, by go_num, rfl, by omega, by rw [size_three _ _ _ (m := 3) rfl]; omega, H, HB.trans (hb2.mono HB.size)⟩
              by_cases z2 : z = 2
              · subst z2
                have H := Lib.hid (HS.out ⟨#[44, 44, 9]⟩ (Tx.elems_sep2 _ _))
                clear HS
                go_wp2_with (first
                  | (go_at_call 8; refine (cc _).mono ?_; rintro e w2 ⟨rfl, hb2⟩; have hz1 := (hb2.cell (p := ⟨bz, oz + j, none⟩) hbz2).trans hz0)
                  | (go_at_call 9; refine (ct _).mono ?_; rintro e w3 ⟨rfl, rfl⟩))
                go_roundg g'
                case measure => omega
                case rel => exact ⟨j + 1 + 1, _, by go_num, rfl, by omega, by rw [size_three _ _ _ (m := 3) rfl]; omega, H, HB.trans (hb2.mono HB.size)⟩
              by_cases z3 : z = 3
              · subst z3
                have H := Lib.hid (HS.out ⟨#[32, 44, 9, 32, 44]⟩ (Tx.elems_sep3 _ _))
                clear HS
                go_wp2_with (first
                  | (go_at_call 8; refine (cc _).mono ?_; rintro e w2 ⟨rfl, hb2⟩; have hz1 := (hb2.cell (p := ⟨bz, oz + j, none⟩) hbz2).trans hz0)
                  | (go_at_call 9; refine (ct _).mono ?_; rintro e w3 ⟨rfl, rfl⟩))
                go_roundg g'
                case measure => omega
                case rel => exact ⟨j + 1 + 1, _, by go_num, rfl, by omega, by rw [size_three _ _ _ (m := 5) rfl]; omega, H, HB.trans (hb2.mono HB.size)⟩
              · have q1 : (z == 1) = false := beq_eq_false_iff_ne.2 z1
                have q2 : (z == 2) = false := beq_eq_false_iff_ne.2 z2
                have q3 : (z == 3) = false := beq_eq_false_iff_ne.2 z3
                clear z1 z2 z3
                have H := Lib.hid (HS.out ⟨#[44]⟩ (Tx.elems_sep0 _ _))
                clear HS
                go_wp2_with (first
                  | (go_at_call 8; refine (cc _).mono ?_; rintro e w2 ⟨rfl, hb2⟩; have hz1 := (hb2.cell (p := ⟨bz, oz + j, none⟩) hbz2).trans hz0)
                  | (go_at_call 9; refine (ct _).mono ?_; rintro e w3 ⟨rfl, rfl⟩))
                go_roundg g'
                case measure => omega
                case rel => exact ⟨j + 1 + 1, _, by go_num, rfl, by omega, by rw [size_three _ _ _ (m := 1) rfl]; omega, H, HB.trans (hb2.mono HB.size)⟩
            · have hd : decide (j < n2) = false := decide_eq_false hj
              clear hj HZ
              have H := Lib.hid (HS.out ⟨#[44]⟩ (Tx.elems_sep0 _ _))
              clear HS
              go_wp2_with (first
                | (go_at_call 8; refine (cc _).mono ?_; rintro e w2 ⟨rfl, hb2⟩)
                | (go_at_call 9; refine (ct _).mono ?_; rintro e w3 ⟨rfl, rfl⟩))
              go_roundg g'
              case measure => omega
              case rel => exact ⟨j + 1 + 1, _, by go_num, rfl, by omega, by rw [size_three _ _ _ (m := 1) rfl]; omega, H, HB.trans (hb2.mono HB.size)⟩
        · have q1 : ((Str (Tx.trim l[k])).toList == X.toList) = false := by
            rw [same_str, decide_eq_false]
            rw [str_list, hXl]
            exact hT
          have q2 : ((Str (Tx.trim l[k])).toList != X.toList) = true := by
            show (!((Str (Tx.trim l[k])).toList == X.toList)) = true
            rw [q1]; rfl
          clear hT hXl hc
          clear HM HX HXl HN HZ HV
          go_wp2_with (first
            | (go_at_call 8; refine (cc _).mono ?_; rintro e w2 ⟨rfl, hb2⟩)
            | (go_at_call 9; refine (ct _).mono ?_; rintro e w3 ⟨rfl, rfl⟩))
          go_ret
          exact ⟨rfl, HB.trans (hb2.mono HB.size)⟩
    · have HE := Lib.hid (Tx.made_listed HM.out (by
        rw [List.take_of_length_le (by rw [HN.out]; omega)]
        intro e
        have := HN.out
        rw [e] at this
        simp at this
        omega))
      have cl : ∀ W, Calls Try.prog 18 #[.string t] W (Gives l true W) := fun W => by
        have := list_yes t W (by omega) HE.out.1
        rwa [HE.out.2, List.take_of_length_le (by rw [HN.out]; omega)] at this
      have HV1 := Lib.hid (HV.out.below HB)
      clear HM HE HX HZ HV
      go_wp2_with (first
        | (go_at_call 18; refine (cl _).mono ?_; rintro e w2 ⟨A3, n3, c3, rfl, hv3, hc3, hb3⟩; obtain rfl : n3 = n := by { have := hv3.1; rw [strs_length, HN.out] at this; exact this.symm }; replace hv3 := Lib.hid hv3; have hv4 := Lib.hid ((HV1.out.below (hb3.mono HB.size)).mono (B' := w2.heap.size) (Nat.le_trans HB.size hb3.size)))
        | (go_at_call 21; refine (texts_same A3 A n3 c3 c w2.heap.size l _ hv3.out hv4.out (by omega)).mono ?_; rintro e w4 ⟨rfl, m, rfl⟩))
      go_ret
      exact ⟨rfl, below_drewN (HB.trans (hb3.mono HB.size)) _⟩

theorem makes_walk (A : Option Addr) (n c : Nat) (l : List (List UInt8)) (A2 : Option Addr) (n2 c2 : Nat) (zs : List Int) (w : World) (hv : Vs w w.heap.size A n (strs l)) (_ : n ≤ c) (hl : ∀ x ∈ l, x.length ≤ maxLen)
    (hz : Vs w w.heap.size A2 n2 (nums .i64 zs)) (_ : n2 ≤ c2) (_ : ∀ z ∈ zs, (Lit.int .i64 z).wf = true) :
    Calls Try.prog 5 #[.slice A n c, .slice A2 n2 c2] w fun e w' => e = .returned (.bool true) ∧ Below w.heap.size w w' := by
  by_cases h : n ≠ 0 ∧ n ≤ 20 ∧ n2 ≤ 40
  · exact makes_in A A2 n c n2 c2 l zs w hv hz hl h.1 h.2.1 h.2.2
  · exact makes_out A A2 n c n2 c2 w (by omega)
end Go.Proofs.Ytgldgmmljigmdaa
