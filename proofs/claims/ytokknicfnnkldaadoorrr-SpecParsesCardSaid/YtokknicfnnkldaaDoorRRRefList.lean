/-
  Contract of the document's own List, of a row of parts.
-/
import Derived.Test.YtokknicfnnkldaaDoorRRTextList
import Derived.Test.YtokknicfnnkldaaDoorRRRefText
import Derived.Deep.DeepCutAuto
namespace Go.Proofs.YtokknicfnnkldaaDoorRR
open Go.ChangeShapes Go.WideShapes Go.ChangeAt Go.RowKit

theorem pick_snoc (ps : List (List UInt8)) (p : List UInt8) : Tx.pick (ps ++ [p]) = Tx.pick ps ++ (if Tx.trim p = [] then [] else [Tx.trim p]) := by rw [Tx.pick_append, Tx.pick_one]
theorem take_more {ps : List (List UInt8)} {k : Nat} (h : k < ps.length) : ps.take (k + 1) = ps.take k ++ [ps[k]] := List.take_succ_eq_append_getElem h
theorem head_of {t : ByteArray} {p : List UInt8} (h : t.data.toList = p) (h0 : 0 < t.size) : p.headD 0 = t[0] := by
  rw [← h, list_cons h0]; rfl
theorem last_of {t : ByteArray} {p : List UInt8} (h : t.data.toList = p) (h0 : 0 < t.size) : p.getLastD 0 = t[t.size - 1] := by
  rw [← h, list_snoc h0]; simp

/-- what the rounds up to k have found -/
def Fine (ps : List (List UInt8)) (n k : Nat) : Prop := ∀ i (h : i < ps.length), i < k → Tx.good n i ps[i] = true
theorem fine_more {ps : List (List UInt8)} {n k : Nat} (h : Fine ps n k) (hk : k < ps.length) (hg : Tx.good n k ps[k] = true) : Fine ps n (k + 1) := by
  intro i hi hik
  by_cases e : i = k
  · subst e; exact hg
  · exact h i hi (by omega)

/-- the elements, or none where it is no list -/
def GivesIf (ps : List (List UInt8)) (b : Bool) (w : World) (e : Ending) (w' : World) : Prop := Gives (if b = true then Tx.pick ps else []) b w e w'

set_option maxHeartbeats 4000000 in
theorem refList_any (A : Option Addr) (n c B : Nat) (ps : List (List UInt8)) (b : Bool) (w : World) (hV : Vs w B A n (strs ps)) (hB : B ≤ w.heap.size) (hn : n ≤ 1000000) (hp : ∀ p ∈ ps, p.length ≤ 1000000)
    (hb : b = true ↔ Fine ps n n) :
    Calls Tryd.prog 13 #[.slice A n c] w (GivesIf ps b w) := by
  obtain ⟨i0, hi, hz, hsz, hby⟩ := str_parts
  have HI := Lib.hid hi; have HZ := Lib.hid hz; have HSZ := Lib.hid hsz; have HBY := Lib.hid hby
  have HV := Lib.hid hV
  have HN : Hid (ps.length = n) := Lib.hid (by have := hV.1; rwa [strs_length] at this)
  have HF := Lib.hid hb
  have HP := Lib.hid hp
  clear hi hz hsz hby hV hb hp
  go_enter Tryd.func13, Tryd.ntmps13
  go_wp2
  go_loopg [4, 10] n (fun gh v i wr => ∃ (k m : Nat) (L : List (List UInt8)), i = .int .i64 k ∧ k + gh = n ∧ k ≤ n ∧ m ≤ k ∧ Hid (wr.ownsRow w.heap.size 9 1 v m (strs L)) ∧ Hid (L = Tx.pick (ps.take k)) ∧ Hid (Fine ps n k) ∧ Below w.heap.size w wr)
  case atStart => exact ⟨0, 0, [], rfl, by omega, by omega, by omega, Lib.hid (World.ownsRow_nil _ _ _ _), Lib.hid rfl, Lib.hid (fun i _ h => absurd h (by omega)), Below.refl _ _⟩
  case round =>
    obtain ⟨k, m, L, rfl, hkg, hk, hm, HO, HL, HK, HBl⟩ := hrel
    by_cases hlt : k < n
    · obtain ⟨g', rfl⟩ : ∃ g', gk = g' + 1 := ⟨gk - 1, by omega⟩
      have hkp : k < ps.length := by rw [HN.out]; exact hlt
      obtain ⟨bk, off, rfl, hbB, hcells⟩ := (HV.out.below (HBl.mono hB)).2 (by omega)
      have hcell := hcells k (by rw [strs_length]; exact hkp)
      rw [strs_get _ _ _ hkp] at hcell
      obtain ⟨t, htp⟩ : ∃ t, t = Str ps[k] := ⟨_, rfl⟩
      have htl : t.data.toList = ps[k] := by rw [htp, str_list]
      rw [← htp] at hcell
      have hts : t.size ≤ 1000000 := by rw [← size_list, htl]; exact HP.out _ (List.getElem_mem hkp)
      have HT := Lib.hid htl
      have ct : ∀ W, Calls Tryd.prog 12 #[.string t, .bool false] W fun e w' => e = .returned (.string (Str (Tx.trim ps[k]))) ∧ W = w' := fun W => by
        have := refTrim_both t W (by omega)
        rwa [htl] at this
      have hsz1 := HBl.size
      clear hcells htp
      by_cases hx : Tx.trim ps[k] = []
      · have hl := str_nil hx
        by_cases h1 : n = 1
        · have hone : ((n : Int) == 1) = true := by rw [h1]; rfl
          by_cases h0 : t.size = 0
          · have hte : t.toList.isEmpty = true := isEmpty_of (List.eq_nil_of_length_eq_zero (by rw [size_list, h0]))
            have HK2 : Hid (Fine ps n (k + 1)) := Lib.hid (fine_more HK.out hkp (by
              unfold Tx.good
              have : ps[k] = [] := by rw [← htl]; exact List.eq_nil_of_length_eq_zero (by rw [size_list, h0])
              rw [if_pos hx, this]; simp))
            have HL2 : Hid (L = Tx.pick (ps.take (k + 1))) := Lib.hid (by rw [take_more hkp, pick_snoc, if_pos hx, List.append_nil, HL.out])
            clear hx HL HK h1 h0 htl
            go_wp2_with (go_at_call 12; refine (ct _).mono ?_; rintro e w1 ⟨rfl, rfl⟩; clear ct)
            go_roundg g'
            case rel => exact ⟨k + 1, m, L, by go_num, by omega, by omega, by omega, HO, HL2, HK2, HBl⟩
            case measure => omega
          · have hte := isEmpty_no (t := t) (by omega)
            have HBF : Hid (b = false) := Lib.hid (by
              rw [Bool.eq_false_iff]
              intro e
              have := HF.out.1 e k hkp hlt
              unfold Tx.good at this
              rw [if_pos hx] at this
              have hne : ps[k].isEmpty = false := by
                rw [← htl]
                have := isEmpty_no (t := t) (by omega)
                rwa [Lib.toList_data] at this
              rw [hne, h1] at this
              exact absurd this (by decide))
            clear hx HL HK h1 h0 htl
            go_wp2_with (go_at_call 12; refine (ct _).mono ?_; rintro e w1 ⟨rfl, rfl⟩; clear ct)
            go_ret2
            unfold GivesIf
            rw [HBF.out]
            exact gives_nil _ _ HBl
        · have hone : ((n : Int) == 1) = false := by rw [beq_eq_false_iff_ne]; omega
          have HK2 : Hid (Fine ps n (k + 1)) := Lib.hid (fine_more HK.out hkp (by
            unfold Tx.good
            rw [if_pos hx, show (n == 1) = false from beq_eq_false_iff_ne.2 h1]; rfl))
          have HL2 : Hid (L = Tx.pick (ps.take (k + 1))) := Lib.hid (by rw [take_more hkp, pick_snoc, if_pos hx, List.append_nil, HL.out])
          clear hx HL HK h1 htl
          go_wp2_with (go_at_call 12; refine (ct _).mono ?_; rintro e w1 ⟨rfl, rfl⟩; clear ct)
          go_roundg g'
          case rel => exact ⟨k + 1, m, L, by go_num, by omega, by omega, by omega, HO, HL2, HK2, HBl⟩
          case measure => omega
      · have hl := str_full hx
        have ht0 : 0 < t.size := by
          rw [← size_list, htl]
          exact len_pos_of (Tx.ne_of_trim hx)
        obtain ⟨a1, e1⟩ : ∃ b, ((k : Int) == 0) = b := ⟨_, rfl⟩
        obtain ⟨a2, e2⟩ : ∃ b, Tx.blank t[0] = b := ⟨_, rfl⟩
        obtain ⟨a3, e3⟩ : ∃ b, ((k : Int) == (n : Int) - 1) = b := ⟨_, rfl⟩
        obtain ⟨a4, e4⟩ : ∃ b, Tx.blank t[t.size - 1] = b := ⟨_, rfl⟩
        have hgood : Tx.good n k ps[k] = !((a1 && a2) || (a3 && a4)) := by
          unfold Tx.good
          rw [if_neg hx, head_of htl ht0, last_of htl ht0, e2, e4, ← e1, ← e3]
          have u1 : (k == 0) = ((k : Int) == 0) := by rw [Bool.eq_iff_iff, beq_iff_eq, beq_iff_eq]; omega
          have u2 : (k + 1 == n) = ((k : Int) == (n : Int) - 1) := by rw [Bool.eq_iff_iff, beq_iff_eq, beq_iff_eq]; omega
          rw [u1, u2]
        have c2 := fun W => refBlank_if e2 W
        have c4 := fun W => refBlank_if e4 W
        obtain ⟨bad, hbad⟩ : ∃ bad, ((a1 && a2) || (a3 && a4)) = bad := ⟨_, rfl⟩
        rw [hbad] at hgood
        have HBF : Hid (bad = true → b = false) := Lib.hid fun hb => by
          rw [Bool.eq_false_iff]
          intro e
          have := HF.out.1 e k hkp hlt
          rw [hgood, hb] at this
          cases this
        have HK2 : Hid (bad = false → Fine ps n (k + 1)) := Lib.hid fun hb => fine_more HK.out hkp (by rw [hgood, hb]; rfl)
        have HL2 : Hid (L ++ [Tx.trim ps[k]] = Tx.pick (ps.take (k + 1))) := Lib.hid (by rw [take_more hkp, pick_snoc, if_neg hx, HL.out])
        have HBad := Lib.hid hbad
        clear hx HL HK htl e2 e4 hgood hbad
        go_upto_region 9 with (go_at_call 12; refine (ct _).mono ?_; rintro e w1 ⟨rfl, rfl⟩; clear ct)
        go_cut [47] (fun s47 wx => s47 = .bool bad ∧ wx = wr)
        case first =>
          cases a1 <;> cases a2 <;> cases a3 <;> cases a4
          all_goals
            go_wp2_with (go_at_call 23; (first | (with_reducible refine (c2 _).mono ?_) | (with_reducible refine (c4 _).mono ?_)); rintro e w1 ⟨rfl, rfl⟩)
            go_meet
            exact ⟨by rw [← HBad.out]; rfl, rfl⟩
        case rest =>
          obtain ⟨rfl, rfl⟩ := hcut
          clear e1 e3 c2 c4 HBad
          cases bad with
          | true =>
            have HB0 := Lib.hid (HBF.out rfl)
            clear HBF HK2
            go_wp2
            go_ret2
            unfold GivesIf
            rw [HB0.out]
            exact gives_nil _ _ HBl
          | false =>
            have HK3 := Lib.hid (HK2.out rfl)
            clear HBF HK2
            go_wp2_with (refine wpList_append_vals (o := ⟨some 51, _, _, _, _, _⟩) rfl (.tmp 48) (.tmp 50) 34 rfl w.heap.size 9 i0 (.string ⟨#[]⟩) 16 Tryd.underlying34 HI.out HZ.out HSZ.out HBY.out rfl _ m (strs L) rfl (HO.out.alloc _) (wc.heap.size + 1) (some ⟨wc.heap.size, 0, none⟩) 1 1 (strs [Tx.trim ps[k]]) rfl (one_made wc (Str (Tx.trim ps[k])) _ _) (strs_one _) (by omega) (by omega) (HBl.alloc hsz1 _).size ?_
                         intro v1 w4 HO4 HG4)
            go_roundg g'
            case measure => omega
            case rel => exact ⟨k + 1, m + 1, L ++ [Tx.trim ps[k]], by go_num, by omega, by omega, by omega, Lib.hid (by rw [← strs_append]; exact HO4.out), HL2, HK3, (HBl.alloc hsz1 _).grown HG4.out (HBl.alloc hsz1 _).size (fun k h => (HO.out.lt k h).1)⟩
    · obtain rfl : k = n := by omega
      have HBT : Hid (b = true) := Lib.hid (HF.out.2 HK.out)
      have HL2 : Hid (L = Tx.pick ps) := Lib.hid (by rw [HL.out, List.take_of_length_le (by rw [HN.out]; omega)])
      clear HL HK
      go_wp2
      go_ret2
      unfold GivesIf
      rw [HBT.out, if_pos rfl]
      exact gives_own HO.out HL2.out HBl
end Go.Proofs.YtokknicfnnkldaaDoorRR
