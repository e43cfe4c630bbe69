/-
  The document's device: Append, where a record has room and nothing is used.
-/
import Derived.Test.YtndbjdnfibpicaaRLogMath
import Derived.Test.YtndbjdnfibpicaaRMRefFrame
import Derived.Test.YtndbjdnfibpicaaRMPage
import Derived.Test.YtndbjdnfibpicaaRFlashRefWrite
import Derived.Test.YtndbjdnfibpicaaRFramePad
import Derived.Test.YtndbjdnfibpicaaRMBytes
namespace Go.Proofs.YtndbjdnfibpicaaR
open Go.ChangeShapes Go.WideShapes Go.ChangeAt Go.RowKit Fl Lo
set_option maxRecDepth 100000

/-- the part of the bytes that is a page's, filled up -/
theorem page_full (l : List UInt8) (B r : Nat) : full B (Fm.page l B r) = full B ((l.drop (r * B)).take B) := by
  apply List.ext_getElem?
  intro i
  unfold full
  rw [List.take_of_length_le (by rw [Fm.page_length]; exact Nat.le_refl _), Fm.page_length, Nat.sub_self]
  simp only [List.replicate_zero, List.append_nil]
  by_cases hi : i < B
  · rw [List.getElem?_eq_getElem (by rw [Fm.page_length]; exact hi), Fm.page_get]
    rw [List.take_take, Nat.min_self]
    by_cases hl : i < ((l.drop (r * B)).take B).length
    · rw [List.getElem?_append_left hl]
      rw [List.getElem?_take_of_lt hi, List.getElem?_drop]
      have : r * B + i < l.length := by
        rw [List.length_take, List.length_drop] at hl
        omega
      rw [List.getD_eq_getElem?_getD, List.getElem?_eq_getElem this, Option.getD_some]
    · rw [List.getElem?_append_right (by omega), List.getElem?_replicate, List.length_take, List.length_drop] 
      rw [List.length_take, List.length_drop] at hl
      rw [if_pos (by omega), List.getD_eq_getElem?_getD, List.getElem?_eq_none (by omega), Option.getD_none]
  · rw [List.getElem?_eq_none (by rw [Fm.page_length]; omega), List.getElem?_eq_none]
    simp only [List.length_append, List.length_replicate, List.length_take]
    omega
theorem dt_bsR {w : World} {v : Nat → Nat} {A : Option Addr} {n c : Nat} {l : List UInt8} (h : Dt w v (.slice A n c) l) : Bs w w.heap.size A n l := by
  obtain ⟨A', c', e, -, hb, -⟩ := h
  injection e with e1 e2 _
  subst e1 e2
  exact hb
section
variable {k S P B xb : Nat} {w w' : World} {v : Nat → Nat} {M : List Pg}
/-- a page's bytes are told with what fills it up, or without -/
theorem Rdv.fill {s p : Int} {r r' : List UInt8} (h : Rdv w v k S P B xb (put s p r M)) (he : full B r = full B r') (hl : r'.length ≤ B) : Rdv w v k S P B xb (put s p r' M) := by
  obtain ⟨u, Q, h1, hq, h2, h3, h4⟩ := h.cells
  have hne : Q ≠ [] := by rintro rfl; simp [put] at hq
  obtain ⟨Q0, q, rfl⟩ : ∃ Q0 q, Q = Q0 ++ [q] := ⟨Q.dropLast, Q.getLast hne, (List.dropLast_concat_getLast hne).symm⟩
  have hq' : Q0.map Prod.fst = M ∧ q.1 = ⟨s, p, r, true⟩ := by
    simp only [List.map_append, List.map_cons, List.map_nil, put] at hq
    have := List.append_inj' hq rfl
    exact ⟨this.1, by simpa using this.2⟩
  obtain ⟨hq0, hq1⟩ := hq'
  have hin := h.ok.rng ⟨s, p, r, true⟩ (by simp [put])
  refine ⟨h.shp, ⟨fun x hx => ?_, ?_⟩, h.fr, h.vx, ⟨u, Q0 ++ [(⟨s, p, r', true⟩, q.2)], h1, ?_, ?_, h3, fun x hx => ?_⟩⟩
  · rcases List.mem_append.1 hx with hx | hx
    · exact h.ok.rng x (List.mem_append_left _ hx)
    · simp only [List.mem_singleton] at hx
      subst hx
      exact ⟨hin.s0, hin.s1, hin.p0, hin.p1, hl⟩
  · have := h.ok.ap
    unfold Ap put at this ⊢
    rw [List.pairwise_append] at this ⊢
    refine ⟨this.1, by simp, fun a ha b hb => ?_⟩
    simp only [List.mem_singleton] at hb
    subst hb
    exact this.2.2 a ha ⟨s, p, r, true⟩ (by simp)
  · simp [put, hq0]
  · have e : quads (Q0 ++ [((⟨s, p, r', true⟩ : Pg), q.2)]) = quads (Q0 ++ [q]) := by
      rw [← quads_append, ← quads_append]
      congr 1
      obtain ⟨q1, q2⟩ := q
      simp only at hq1
      subst hq1
      rfl
    rw [e]
    have el : (put s p r' M).length = (put s p r M).length := by simp [put]
    rw [el]
    exact h2
  · rcases List.mem_append.1 hx with hx | hx
    · exact h4 x (List.mem_append_left _ hx)
    · simp only [List.mem_singleton] at hx
      subst hx
      have := h4 q (by simp)
      rw [hq1] at this
      show Dt w v q.2 (full B r')
      rw [← he]
      exact this
/-- what an append comes to -/
def RefAppendTo (k S P B xb : Nat) (M : List Pg) (K : Nat) (w : World) (v : Nat → Nat) (e : Ending) (w' : World) : Prop :=
  e = .returned (.tuple #[.int .i64 K, .int .i64 0]) ∧ ∃ v', Rdv w' v' k S P B xb M ∧ Stp k w w' v v'
theorem Rdv.c123 (h : Rdv w v k S P B xb M) : w.cell? ⟨xb, 1, none⟩ = some (.int .i64 P) ∧ w.cell? ⟨xb, 2, none⟩ = some (.int .i64 B) := by
  obtain ⟨u, Q, -, c0, c1, c2, -⟩ := h.four
  exact ⟨c1, c2⟩
set_option maxHeartbeats 8000000 in
theorem refAppend_any (h : Rdv w v k S P B xb M) (hk : k ≠ 0) (s p : Int) (hs : W64 s) (hin : 0 ≤ s ∧ s < S) (hp0 : 0 ≤ p) (kind : UInt8) (seq : Nat) (hq : seq < 18446744073709551616) (A : Option Addr) (n c : Nat) (l : List UInt8) (Bd : Nat)
    (hd : Bs w Bd A n l) (hBd : Bd ≤ w.heap.size) (hn : n ≤ 4096) (hr : p + (Fm.pages n B : Int) ≤ (P : Int)) (hu : ∀ p2 : Int, p ≤ p2 → lk M s p2 = none) (hM : M.length ≤ 90000) :
    Calls Try.prog 51 #[.pointer (some ⟨xb, 0, none⟩), .int .i64 s, .int .i64 p, .int .u64 seq, .int .u8 (kind.toNat : Int), .slice A n c] w (RefAppendTo k S P B xb (app s p B (Fm.frame kind seq l) (Fm.pages n B) M) (Fm.pages n B) w v) := by
  have hb1 := h.shp.b1
  have hb2 := h.shp.b2
  have hp2 := h.shp.p2
  have hln := hd.len
  have hK1 := pages_pos n (by omega : 1 ≤ B)
  have HKI := Lib.hid (fun i => Fm.pages_iff (n := n) (k := i) (by omega : 1 ≤ B))
  have HD := Lib.hid h
  have HWS := Lib.hid hs
  have HU := Lib.hid hu
  have HIN := Lib.hid hin
  have hfl := Fm.frame_length kind seq l
  rw [hln] at hfl
  have cfr := refFrame_new kind seq A n c l Bd w hd hBd hn hq
  have cpg := refPages_any n B
  obtain ⟨fr, hfr⟩ : ∃ fr, fr = Fm.frame kind seq l := ⟨_, rfl⟩
  rw [← hfr] at hfl cfr ⊢
  unfold ToldNew at cfr
  obtain ⟨N, hN⟩ : ∃ N, N = n + 16 := ⟨_, rfl⟩
  rw [← hN] at hfl
  rw [hfl] at cfr
  have HFL := Lib.hid hfl
  obtain ⟨K, hK⟩ : ∃ K, K = Fm.pages n B := ⟨_, rfl⟩
  rw [← hK] at hr hK1 HKI cpg ⊢
  rw [← hN] at HKI
  have hnil := bytesNil
  have hN1 : 16 ≤ N := by omega
  have hN2 : N ≤ 4112 := by omega
  have ch := has_any h s p
  rw [decide_eq_true ⟨hin.1, hin.2, hp0, by omega⟩] at ch
  obtain ⟨c1, c2⟩ := h.c123
  clear h hs hu hin hfr hK hd hfl hln hN
  go_enter Try.func51, Try.ntmps51
  go_wp2_with (first
    | (go_at_call 64; (with_reducible refine ch.mono ?_); rintro e w1 ⟨rfl, rfl⟩; clear ch)
    | (go_at_call 65; (with_reducible refine cfr.mono ?_); rintro e w2 ⟨A2, c2', rfl, hs2, hc2, hb2, hn2⟩; have HB2 := Lib.hid hb2; have HS2 := Lib.hid hs2; have HC2 := Lib.hid hc2; have HN2 := Lib.hid hn2; obtain ⟨ad, rfl⟩ : ∃ ad, A2 = some ad := (by obtain ⟨b, off, e, -⟩ := hs2.2 (by omega); exact ⟨_, e⟩); obtain ⟨d1, d2⟩ := (HD.out.below hb2).c123; have cp := cpg w2 hn (by omega) (by omega); clear hb2 hs2 hc2 hn2 cfr c1 c2)
    | (go_at_call 50; (with_reducible refine cp.mono ?_); rintro e w3 ⟨rfl, rfl⟩; clear cp))
  have HDT : Hid (Dt w2 v (.slice (some ad) N c2') fr) := Lib.hid (by
    have hx := Dt.made (A := some ad) (c := c2') HD.out.fr (by rw [HFL.out]; exact HC2.out) (by rw [HFL.out]; exact HS2.out) (fun e => (nomatch e)) (fun _ => HN2.out)
    rw [HFL.out] at hx
    exact hx)
  have hKK : K ≤ 64 := by omega
  go_loopw [16] (fun i wr => ∃ j : Nat, j ≤ K ∧ i = .int .i64 j ∧ Hid (Below w2.heap.size w2 wr)) (fun i _ => K - (intOf i).toNat)
  case atStart => exact ⟨0, Nat.zero_le _, rfl, Lib.hid (Below.refl _ _)⟩
  case round =>
    obtain ⟨j, hj, rfl, HB⟩ := hrel
    by_cases hlt : j < K
    · have w1 : IntKind.i64.wrap (p + (j : Int)) = p + (j : Int) := IntWalk.i64_in _ (by omega)
      have cf := find_none (HD.out.below (HB2.out.trans (HB.out.mono HB2.out.size))) s (p + (j : Int)) (by omega) (HU.out _ (by omega))
      have hltI : (j : Int) < (K : Int) := by omega
      go_wp2_with (go_at_call 41; (with_reducible refine cf.mono ?_); rintro e w4 ⟨rfl, hb4⟩; have HB4 := Lib.hid (HB.out.trans (hb4.mono HB.out.size)); clear hb4 cf)
      go_roundw
      case rel => exact ⟨j + 1, by omega, by go_num, HB4⟩
      case measure => simp [intOf]; omega
    · obtain rfl : j = K := by omega
      have hbw := HB2.out.trans (HB.out.mono HB2.out.size)
      have HD3 := Lib.hid (HD.out.below hbw)
      have HS3 : Hid (Stp k w wr v v) := Lib.hid (Stp.below hbw HD.out.fr)
      have HDT3 : Hid (Dt wr v (.slice (some ad) N c2') fr) := Lib.hid (HDT.out.stp (k := k + 1) (Stp.below HB.out (HD.out.fr.below HB2.out)) (by omega))
      obtain ⟨wo, hwo⟩ : ∃ wo, wo = wr := ⟨wr, rfl⟩
      subst hwo
      go_wp2
      go_loopw [17, 18] (fun i _ wr => ∃ (m : Nat) (v2 : Nat → Nat), m ≤ j ∧ i = .int .i64 m ∧ Hid (Rdv wr v2 k S P B xb (app s p B fr m M)) ∧ Hid (Stp k wo wr v v2)) (fun i _ _ => j - (intOf i).toNat)
      case atStart => exact ⟨0, v, Nat.zero_le _, rfl, by rw [app_zero]; exact HD3, Lib.hid (Stp.refl HD3.out.fr)⟩
      case round =>
        obtain ⟨m, v2, hm, rfl, HDm, HSm⟩ := hrel
        by_cases hltm : m < j
        · have w1 : IntKind.i64.wrap (p + (m : Int)) = p + (m : Int) := IntWalk.i64_in _ (by omega)
          have hlk : lk (app s p B fr m M) s (p + (m : Int)) = none := by rw [lk_app (by omega)]; exact HU.out _ (by omega)
          obtain ⟨c1, c2⟩ := HDm.out.c123
          have hmul : m * B ≤ 63 * 256 := Nat.mul_le_mul (by omega) hb2
          have hsucc : (m + 1) * B = m * B + B := Nat.succ_mul m B
          have hmN : m * B < N := (HKI.out m).1 hltm
          obtain ⟨a, ha⟩ : ∃ a, a = m * B := ⟨_, rfl⟩
          obtain ⟨b, hb⟩ : ∃ b, b = (m + 1) * B := ⟨_, rfl⟩
          have HA := Lib.hid ha
          have HBB : Hid (b = a + B) := Lib.hid (by omega)
          have q1 : IntKind.i64.wrap ((m : Int) * (B : Int)) = (a : Int) := by rw [ha, ← Int.natCast_mul]; exact IntWalk.i64_in _ (by omega)
          have q2 : IntKind.i64.wrap (((m : Int) + 1) * (B : Int)) = (b : Int) := by
            have e : ((m : Int) + 1) * (B : Int) = (((m + 1) * B : Nat) : Int) := by rw [Int.natCast_mul]; rfl
            rw [e, hb]; exact IntWalk.i64_in _ (by omega)
          have hbnd : b ≤ 100000 := by omega
          rw [← ha] at hmN
          have hltI : (m : Int) < (j : Int) := by omega
          clear hmul hsucc ha hb
          obtain ⟨en, hen⟩ : ∃ en, en = min b N := ⟨_, rfl⟩
          have hen1 : a ≤ en := by rw [hen]; have := HBB.out; omega
          have hen2 : en ≤ N := by rw [hen]; omega
          have hcut := cut_mid (some ad) N c2' a en hen1 (by have := HC2.out; omega)
          have hbs := ((dt_bsR (HDT3.out.stp HSm.out hk)).mid hen1 hen2 HC2.out)
          obtain ⟨A5, hA5⟩ : ∃ A5, A5 = behindN (some ad) c2' a := ⟨_, rfl⟩
          rw [← hA5] at hcut hbs
          have HL5 : Hid (full B ((fr.drop a).take (en - a)) = full B (Fm.page fr B m) ∧ ((fr.drop a).take (en - a)).length ≤ B) := Lib.hid (by
            rw [page_full, ← HA.out]
            have hlen : (fr.drop a).length = N - a := by rw [List.length_drop, HFL.out]
            constructor
            · rcases Nat.lt_or_ge N b with hc | hc
              · rw [List.take_of_length_le (by rw [hlen]; omega), List.take_of_length_le (by rw [hlen]; have := HBB.out; omega)]
              · have : en - a = B := by have := HBB.out; omega
                rw [this]
            · rw [List.length_take]; have := HBB.out; omega)
          obtain ⟨l5, hl5⟩ : ∃ l5, l5 = (fr.drop a).take (en - a) := ⟨_, rfl⟩
          rw [← hl5] at hbs HL5
          obtain ⟨dl, hdl⟩ : ∃ dl, dl = en - a := ⟨_, rfl⟩
          obtain ⟨dc, hdc⟩ : ∃ dc, dc = c2' - a := ⟨_, rfl⟩
          rw [← hdl] at hcut hbs
          rw [← hdc] at hcut
          have HIN5 : Hid (0 ≤ s ∧ s < (S : Int) ∧ 0 ≤ p + (m : Int) ∧ p + (m : Int) < (P : Int)) := Lib.hid ⟨HIN.out.1, HIN.out.2, by omega, by omega⟩
          have cw := refWrite_ok HDm.out hk s (p + (m : Int)) A5 dl dc l5 hbs HIN5.out HL5.out.2 hlk (by rw [app_length]; omega)
          have HFILL := Lib.hid (fun (W : World) (V : Nat → Nat) (hR : Rdv W V k S P B xb (put s (p + (m : Int)) l5 (app s p B fr m M))) => by
            have := hR.fill HL5.out.1 (by rw [Fm.page_length]; exact Nat.le_refl _)
            rw [← app_succ] at this
            exact this)
          clear hbs hlk hA5 hl5 hdl hdc hen1 hen2
          by_cases hc : N < b
          · have e1 : decide ((N : Int) < (b : Int)) = true := decide_eq_true (by omega)
            have e2 : decide (N < b) = true := decide_eq_true hc
            obtain rfl : en = N := by omega
            clear hen
            go_wp2_with (go_at_call 66; (with_reducible refine cw.mono ?_); rintro e w8 ⟨rfl, v3, hD8, hS8⟩; have HD8 := Lib.hid (HFILL.out _ _ hD8); have HS8 := Lib.hid hS8; clear cw hD8 hS8)
            go_roundw
            case rel => exact ⟨m + 1, v3, by omega, by go_num, HD8, Lib.hid (HSm.out.trans HS8.out)⟩
            case measure => simp [intOf]; omega
          · have e1 : decide ((N : Int) < (b : Int)) = false := decide_eq_false (by omega)
            have e2 : decide (N < b) = false := decide_eq_false hc
            obtain rfl : en = b := by omega
            clear hen
            go_wp2_with (go_at_call 66; (with_reducible refine cw.mono ?_); rintro e w8 ⟨rfl, v3, hD8, hS8⟩; have HD8 := Lib.hid (HFILL.out _ _ hD8); have HS8 := Lib.hid hS8; clear cw hD8 hS8)
            go_roundw
            case rel => exact ⟨m + 1, v3, by omega, by go_num, HD8, Lib.hid (HSm.out.trans HS8.out)⟩
            case measure => simp [intOf]; omega
        · obtain rfl : m = j := by omega
          go_wp2
          go_ret2
          exact ⟨rfl, v2, HDm.out, HS3.out.trans HSm.out⟩
end
end Go.Proofs.YtndbjdnfibpicaaR
