/-
  The document's device: Crash.
-/
import Derived.Test.YtgnncbbfbhipaaaFlashRefWrite
import Derived.Test.YtgnncbbfbhipaaaFlashKept
import Derived.Deep.CutRange
namespace Go.Proofs.Ytgnncbbfbhipaaa
open Go.ChangeShapes Go.WideShapes Go.ChangeAt Go.RowKit Fl
set_option maxRecDepth 100000

theorem crash_next (f : Nat → Nat) {L : List Pg} {j : Nat} (hj : j < L.length) : crash f 0 (L.take (j + 1)) = crash f 0 (L.take j) ++ (if L[j].dirty then (if f (dirt (L.take j)).length = 0 then [] else [{ L[j] with raw := L[j].raw.take (f (dirt (L.take j)).length), dirty := false }]) else [L[j]]) := by
  rw [List.take_succ_eq_append_getElem hj, crash_append, Nat.zero_add]
  rfl
theorem dirt_next {L : List Pg} {j : Nat} (hj : j < L.length) : (dirt (L.take (j + 1))).length = (dirt (L.take j)).length + (if L[j].dirty then 1 else 0) := by
  rw [List.take_succ_eq_append_getElem hj, dirt_snoc, List.length_append]
  cases L[j].dirty <;> rfl
theorem tbit (K n : Nat) : (((K : Int) / 2 ^ n).tmod 2 == 1) = decide (K / 2 ^ n % 2 = 1) := by
  have e : (K : Int) / 2 ^ n = ((K / 2 ^ n : Nat) : Int) := by simp
  rw [e]
  generalize K / 2 ^ n = x
  rw [Int.tmod_eq_emod_of_nonneg (by omega)]
  by_cases h : x % 2 = 1
  · have h2 : (x : Int) % 2 = 1 := by omega
    rw [h2, decide_eq_true h]; rfl
  · have h2 : (x : Int) % 2 = 0 := by omega
    rw [h2, decide_eq_false h]; rfl
theorem high_bit {K n : Nat} (hK : K < 18446744073709551616) (hn : ¬ n < 64) : K / 2 ^ n = 0 := by
  rw [Nat.div_eq_of_lt]
  exact Nat.lt_of_lt_of_le hK (by rw [show (18446744073709551616 : Nat) = 2 ^ 64 by rfl]; exact Nat.pow_le_pow_right (by omega) (by omega))
/-- what is built so far -/
structure Bl (base : Nat) (w : World) (v : Nat → Nat) (k B : Nat) (l : Value) (m : Nat) (M : List Pg) (R : List (Pg × Value)) : Prop where
  own : w.ownsRow base 48 4 l m (quads R)
  len : m = R.length
  is : R.map Prod.fst = M
  data : ∀ q ∈ R, Dt w (pl v l k) q.2 (full B q.1.raw)
/-- one page more -/
theorem Bl.more {base m g cap k B : Nat} {w w2 : World} {v : Nat → Nat} {l x : Value} {M : List Pg} {R : List (Pg × Value)} {q : Pg} (h : Bl base w v k B l m M R) (hk : k ≠ 0) (hg : w.grownBy w2 l.ownBlock) (hat : l.ownBlock = some g ∨ w.heap.size ≤ g)
    (hown : w2.ownsRow base 48 4 (.slice (some ⟨g, 0, none⟩) (m + 1) cap) (m + 1) (quads R ++ [.int .i64 q.seg, .int .i64 q.page, x, .bool q.dirty])) (hx : Dt w (pl v l k) x (full B q.raw)) :
    Bl base w2 v k B (.slice (some ⟨g, 0, none⟩) (m + 1) cap) (m + 1) (M ++ [q]) (R ++ [(q, x)]) := by
  refine ⟨?_, by rw [h.len]; simp, by rw [List.map_append, h.is]; rfl, fun y hy => ?_⟩
  · rw [← quads_append]
    exact hown
  · rcases List.mem_append.1 hy with hy | hy
    · exact (h.data y hy).row hg hat hk
    · simp only [List.mem_singleton] at hy
      subst hy
      exact hx.row hg hat hk
theorem Dt.below {w w2 : World} {v : Nat → Nat} {x : Value} {d : List UInt8} (h : Dt w v x d) (hb : Below w.heap.size w w2) : Dt w2 v x d := by
  obtain ⟨A, c, e, hc, h1, h2, h3⟩ := h
  exact ⟨A, c, e, hc, (h1.below hb).mono hb.size, h2, h3⟩
theorem Bl.below {base m k B : Nat} {w w2 : World} {v : Nat → Nat} {l : Value} {M : List Pg} {R : List (Pg × Value)} (h : Bl base w v k B l m M R) (hb : Below w.heap.size w w2) : Bl base w2 v k B l m M R :=
  ⟨own_belowN h.own hb, h.len, h.is, fun q hq => by
    obtain ⟨A, c, e, hc, h1, h2, h3⟩ := h.data q hq
    exact ⟨A, c, e, hc, (h1.below hb).mono hb.size, h2, h3⟩⟩
section
variable {k S P B xb : Nat} {w : World} {v : Nat → Nat} {L : List Pg}
set_option maxHeartbeats 8000000 in
set_option maxRecDepth 100000 in
theorem refCrash_any (h : Rdv w v k S P B xb L) (hk : k ≠ 0) (K : Nat) (t c : Int) (hK : K < 18446744073709551616) (hL : L.length ≤ 100000) :
    Calls Try.prog 12 #[.pointer (some ⟨xb, 0, none⟩), .agg #[.int .u64 K, .int .i64 t, .int .i64 c]] w fun e w' => e = .returned (.tuple #[]) ∧ ∃ v', Rdv w' v' k S P B xb (crash (keep B K t c) 0 L) ∧ Stp k w w' v v' := by
  obtain ⟨i0, hi, hz, hsz, hby⟩ := info_parts page_info
  have HI := Lib.hid hi
  have HZ := Lib.hid hz
  have HSZ := Lib.hid hsz
  have HBY := Lib.hid hby
  clear hi hz hsz hby
  have hb0 := below_new4 w (.cells #[.int .u64 K, .int .i64 t, .int .i64 c] 27)
  have t3 := Three.new w (.int .u64 K) (.int .i64 t) (.int .i64 c) 27
  obtain ⟨u, Q, hh, -, -, -, -, -, hQ, hown, hub, hdat⟩ := (h.below hb0).four
  have hb256 := h.shp.b2
  have hb16 := h.shp.b1
  have HD := Lib.hid h
  have HB0 := Lib.hid hb0
  have HH := Lib.hid hh
  have HO := Lib.hid hown
  have HQ := Lib.hid hQ
  have HDAT := Lib.hid hdat
  have HT := Lib.hid t3
  obtain ⟨N, hN⟩ : ∃ N, N = L.length := ⟨_, rfl⟩
  have HQL : Hid (Q.length = N) := Lib.hid (by rw [hN, ← hQ, List.length_map])
  rw [← hN] at HO hL
  have HN := Lib.hid hN
  obtain ⟨A, cu, rfl⟩ := own_len HO.out
  have c3 : (w.alloc (.cells #[.int .u64 K, .int .i64 t, .int .i64 c] 27)).cell? ⟨xb, 3, none⟩ = some (.slice A N cu) := by simp [World.cell?, hh]
  have c2 : (w.alloc (.cells #[.int .u64 K, .int .i64 t, .int .i64 c] 27)).cell? ⟨xb, 2, none⟩ = some (.int .i64 B) := by simp [World.cell?, hh]
  have hbx := (below_new4 w (.cells #[.int .u64 K, .int .i64 t, .int .i64 c] 27))
  obtain ⟨cv, hcv⟩ : ∃ cv : Nat, cv = (min (max c 0) (B : Int)).toNat := ⟨_, rfl⟩
  have HCV := Lib.hid hcv
  have hcvB : cv ≤ B := by rw [hcv]; omega
  clear h hown hQ hdat hub hh hN t3
  -- the cut
  obtain ⟨c1, hc1⟩ : ∃ c1 : Int, c1 = max c 0 := ⟨_, rfl⟩
  have hc2 : c1 = if c < 0 then 0 else c := by rw [hc1]; split <;> omega
  have hc3 : (cv : Int) = if (B : Int) < c1 then (B : Int) else c1 := by rw [hcv, hc1]; split <;> omega
  have HC2 := Lib.hid hc2
  have HC3 := Lib.hid hc3
  clear hcv hb0 hc1 hc2 hc3
  obtain ⟨f, hfk⟩ : ∃ f, f = keep B K t c := ⟨_, rfl⟩
  rw [← hfk]
  have HFK := Lib.hid hfk
  clear hfk
  go_enter Try.func12, Try.ntmps12
  go_upto_if 12 with fail
  go_cut [6] from 11 to 24 (fun s6 wc => s6 = .int .i64 c1 ∧ wc = w.alloc (.cells #[.int .u64 K, .int .i64 t, .int .i64 c] 27))
  case first =>
    by_cases hc0 : c < 0
    · have h1 : c1 = 0 := by rw [HC2.out, if_pos hc0]
      go_wp2_with fail
      all_goals (go_meet; exact ⟨by rw [h1], rfl⟩)
    · have h1 : c1 = c := by rw [HC2.out, if_neg hc0]
      go_wp2_with fail
      all_goals (go_meet; exact ⟨by rw [h1], rfl⟩)
  case rest =>
    obtain ⟨rfl, rfl⟩ := hcut
    go_upto_if 19 with fail
    go_cut [6] from 13 to 24 (fun s6 wc => s6 = .int .i64 (cv : Int) ∧ wc = w.alloc (.cells #[.int .u64 K, .int .i64 t, .int .i64 c] 27))
    case first =>
      by_cases hc0 : (B : Int) < c1
      · have h1 : (cv : Int) = B := by rw [HC3.out, if_pos hc0]
        go_wp2_with fail
        all_goals (go_meet; exact ⟨by rw [h1], rfl⟩)
      · have h1 : (cv : Int) = c1 := by rw [HC3.out, if_neg hc0]
        have hc0' : decide ((B : Int) < c1) = false := decide_eq_false hc0
        go_wp2_with fail
        all_goals (go_meet; exact ⟨by rw [h1], rfl⟩)
    case rest =>
      obtain ⟨rfl, rfl⟩ := hcut
      have HFR : Hid (Fr (w.alloc (.cells #[.int .u64 K, .int .i64 t, .int .i64 c] 27)) v) := Lib.hid (HD.out.fr.below HB0.out)
      obtain ⟨hw0, k0, k1, k2, -, -, -⟩ := HT.out
      have HXB : Hid (xb < w.heap.size) := Lib.hid HD.out.ltx
      have HKK := Lib.hid hK
      clear hbx hK
      generalize w.alloc (.cells #[.int .u64 K, .int .i64 t, .int .i64 c] 27) = w0 at *
      have HC := Lib.hid c3
      have HC22 := Lib.hid c2
      have HK0 := Lib.hid k0
      have HK1 := Lib.hid k1
      go_wp2
      go_loopw [4, 5, 8, 30] (fun l kk _ i wr => ∃ (j m n : Nat) (R : List (Pg × Value)), j ≤ N ∧ m ≤ j ∧ n ≤ j ∧ i = .int .i64 j ∧ kk = .int .i64 n ∧ Hid (n = (dirt (L.take j)).length) ∧ Hid (Bl w0.heap.size wr v k B l m (crash f 0 (L.take j)) R) ∧ Hid (Below w0.heap.size w0 wr)) (fun _ _ _ i _ => N - (intOf i).toNat)
      case atStart => exact ⟨0, 0, 0, [], Nat.zero_le _, Nat.le_refl _, Nat.le_refl _, rfl, rfl, Lib.hid (by simp [dirt]), Lib.hid ⟨World.ownsRow_nil _ _ _ _, rfl, by simp [crash], fun q hq => (nomatch hq)⟩, Lib.hid (Below.refl _ _)⟩
      case round =>
        obtain ⟨j, m, n, R, hj, hmj, hnj, rfl, rfl, HNN, HR, HB⟩ := hrel
        by_cases hlt : j < N
        · rcases own_form HO.out with ⟨_, _, h0⟩ | ⟨g, c', he, hgl, _⟩
          · omega
          injection he with he _ hcu
          subst he
          subst hcu
          have hjQ : j < Q.length := by rw [HQL.out]; exact hlt
          have hjL : j < L.length := by rw [← HN.out]; exact hlt
          obtain ⟨e0, e1, e2, e3, -⟩ := own_quad HO.out HQL.out hlt
          have d0 := (HB.out.cell (p := ⟨g, j * 4, none⟩) hgl).trans e0
          have d1 := (HB.out.cell (p := ⟨g, j * 4 + 1, none⟩) hgl).trans e1
          have d2 := (HB.out.cell (p := ⟨g, j * 4 + 2, none⟩) hgl).trans e2
          have d3 := (HB.out.cell (p := ⟨g, j * 4 + 3, none⟩) hgl).trans e3
          have hLQ : L[j] = (Q[j]'hjQ).1 := by simp [← HQ.out]
          have hcn := crash_next f hjL
          have hdn := dirt_next hjL
          rw [← HNN.out, hLQ] at hcn
          rw [← HNN.out, hLQ] at hdn
          have hinq := HD.out.ok.rng _ (List.getElem_mem hjL)
          rw [hLQ] at hinq
          have hdt := HDAT.out _ (List.getElem_mem hjQ)
          obtain ⟨⟨⟨s2, p2, r2, b2⟩, x2⟩, hq2⟩ : ∃ y, y = Q[j] := ⟨_, rfl⟩
          rw [← hq2] at d0 d1 d2 d3 hcn hdn hinq hdt
          dsimp only at d0 d1 d2 d3 hcn hdn hdt
          have hlen := hinq.len
          dsimp only at hlen
          obtain ⟨A2, c2', hx2, -⟩ := hdt
          rw [full_length] at hx2
          subst hx2
          have hdt0 : Dt w0 v (.slice A2 B c2') (full B r2) := by have h := HDAT.out _ (List.getElem_mem hjQ); rw [← hq2] at h; exact h
          have HX := Lib.hid (Dt.below (Dt.far (k := k) hdt0 (fun g hg => .inl (HR.out.own.lt g hg).1)) HB.out)
          clear hdt0
          have HLEN := Lib.hid hlen
          have HCN := Lib.hid hcn
          have hxb0 : xb < w0.heap.size := Nat.lt_of_lt_of_le HXB.out HB0.out.size
          have c3r := (HB.out.cell (p := ⟨xb, 3, none⟩) hxb0).trans HC.out
          have p0 := (HB.out.cell (p := ⟨w.heap.size, 0, none⟩) hw0).trans HK0.out
          have p1 := (HB.out.cell (p := ⟨w.heap.size, 1, none⟩) hw0).trans HK1.out
          have hwr : w.heap.size < wr.heap.size := Nat.lt_of_lt_of_le hw0 HB.out.size
          have hxr : xb < wr.heap.size := Nat.lt_of_lt_of_le hxb0 HB.out.size
          clear e0 e1 e2 e3 hq2 hLQ hcn hinq hlen
          obtain ⟨A9, n9, c9, rfl⟩ := own_slice9 HR.out.own
          cases b2
          · simp only [Bool.false_eq_true, if_false, Nat.add_zero] at hdn
            have HDN := Lib.hid hdn
            have HCN2 : Hid (crash f 0 (L.take (j + 1)) = crash f 0 (L.take j) ++ [⟨s2, p2, r2, false⟩]) := Lib.hid (by have := HCN.out; simpa using this)
            have hb1 := below_new4 wr (.cells #[.int .i64 s2, .int .i64 p2, .slice A2 B c2', .bool false] 48)
            have HBX := Lib.hid (hb1.alloc hb1.size (.cells #[.int .i64 s2, .int .i64 p2, .slice A2 B c2', .bool false] 48))
            clear hdn hb1
            go_wp2_with (at_builtin; refine wpList_append_lies (o := ⟨some 40, _, _, _, _, _⟩) _ rfl (.tmp 37) (.tmp 39) 40 rfl w0.heap.size 48 i0 _ 4 48 Try.underlying40 HI.out HZ.out HSZ.out HBY.out rfl (by decide) _ m (quads R) rfl (own_belowN HR.out.own HBX.out) ⟨wr.heap.size + 1, 0, none⟩ 1 1 [.int .i64 s2, .int .i64 p2, .slice A2 B c2', .bool false] rfl rfl (new_cells2 wr _ _ #[.int .i64 s2, .int .i64 p2, .slice A2 B c2', .bool false]) (by simp [Value.oneCell']) (by omega) (by unfold maxLen; omega) (by omega) (by have := HB.out.size; simp; omega) _ rfl ?_; intro g6 cap6 w6 hown6 hgrow6 hat6 hlt6)
            go_roundw
            case rel =>
              have hbl := (HR.out.below HBX.out).more (q := ⟨s2, p2, r2, false⟩) hk hgrow6 (hat6.imp id (fun e => by rw [e]; exact Nat.le_refl _)) hown6 (HX.out.below HBX.out)
              have hb6 := (HB.out.trans (HBX.out.mono HB.out.size)).grown hgrow6 (HB.out.trans (HBX.out.mono HB.out.size)).size (fun q hq => (HR.out.own.lt q hq).1)
              exact ⟨j + 1, m + 1, n, R ++ [((⟨s2, p2, r2, false⟩ : Pg), Value.slice A2 B c2')], by omega, by omega, by omega, by go_num, rfl, Lib.hid HDN.out.symm, by rw [HCN2.out]; exact Lib.hid hbl, Lib.hid hb6⟩
            case measure => simp [intOf]; omega
          · simp only [if_true] at hdn
            have HDN := Lib.hid hdn
            clear hdn
            by_cases hnt : (n : Int) = t
            · have hnte : ((n : Int) == t) = true := by simpa using hnt
              have hntn : ((n : Int) != t) = false := by simpa using hnt
              have HFN : Hid (f n = cv) := Lib.hid (by rw [HFK.out, HCV.out]; unfold keep; rw [if_pos hnt])
              clear hnt
              by_cases hc0 : 0 < cv
              · have h0i : (0 : Int) < cv := by omega
                have HCN2 : Hid (crash f 0 (L.take (j + 1)) = crash f 0 (L.take j) ++ [⟨s2, p2, r2.take cv, false⟩]) := Lib.hid (by
                  have := HCN.out
                  rw [HFN.out, if_neg (show ¬ cv = 0 by omega)] at this
                  simpa using this)
                have hb1 := (below_new4 wr (.cells #[.int .i64 s2, .int .i64 p2, .slice A2 B c2', .bool true] 48)).drew
                obtain ⟨hq4, t0, t1, t2, -⟩ := Four.new wr (.int .i64 s2) (.int .i64 p2) (.slice A2 B c2') (.bool true) 48
                have hhw := (hb1.block xb hxr).trans ((HB.out.block xb hxb0).trans HH.out)
                obtain ⟨hcc, hbs⟩ : B ≤ c2' ∧ Bs wr wr.heap.size A2 B (full B r2) := by
                  obtain ⟨A', c'', e, h1, h2, -⟩ := HX.out
                  rw [full_length] at e h1 h2
                  injection e with e1 _ e2
                  subst e1 e2
                  exact ⟨h1, h2⟩
                have cfull := full_at hhw A2 cv c2' ((full B r2).take cv) (((hbs.below hb1).mono hb1.size).front hcvB) (by omega) hb256 (by omega)
                have HFT := Lib.hid (full_take (B := B) r2 hcvB)
                have HB1 := Lib.hid hb1
                have hcc2 : cv ≤ c2' := by omega
                clear hb1 hhw hbs hcc
                go_wp2
                go_region_law (first
                  | (refine step_append_lies _ (by rfl) _ _ _ (by rfl) w0.heap.size 48 i0 _ 4 48 Try.underlying40 HI.out HZ.out HSZ.out HBY.out rfl (by omega) (.slice A9 n9 c9) m (quads R) (by rfl) (HO3.out.alloc _) ⟨w3.heap.size, 0, none⟩ 1 1 [.int .i64 s2, .int .i64 p2, .slice A3 B n3, .bool false] (by rfl) (by rfl) (World.news_of_block (cs := #[.int .i64 s2, .int .i64 p2, .slice A3 B n3, .bool false]) (t := 48) (fr := (0, 0)) (heap_alloc_new w3 _)) (by simp [Value.oneCell']) (by omega) (by unfold maxLen; omega) (by omega) (by simp; omega) (w3.heap.size + 1) (by simp) ?_; intro g6 cap6 w6 hown6 hgrow6 hat6 hlt6; have p1' : w6.cell? ⟨w.heap.size, 1, none⟩ = some (.int .i64 t) := hgrow6.cell HP5.out (fun e => by have := (HR.out.own.lt _ e.symm).1; dsimp only at this; omega); have HO6 := Lib.hid hown6; have HG6 := Lib.hid hgrow6; have HA6 := Lib.hid hat6; clear hown6 hgrow6 hat6 hlt6)
                  | (go_simp; go_at_call 36; (with_reducible refine cfull.mono ?_); rintro e w3 ⟨A3, n3, rfl, hn3, hs3, ho3, hw3, hb3⟩; have HB3 := Lib.hid (HB1.out.trans (hb3.mono HB1.out.size)); have HS3 := Lib.hid hs3; have hw3s : w0.heap.size ≤ w3.heap.size := Nat.le_trans HB.out.size HB3.out.size; have hq3 : wr.heap.size < w3.heap.size := Nat.lt_of_lt_of_le hq4 hb3.size; have t0' := (hb3.cell (p := ⟨wr.heap.size, 0, none⟩) hq4).trans t0; have t1' := (hb3.cell (p := ⟨wr.heap.size, 1, none⟩) hq4).trans t1; have t2' := (hb3.cell (p := ⟨wr.heap.size, 2, none⟩) hq4).trans t2; have HO3 := Lib.hid (own_belowN HR.out.own HB3.out); have HW3 := Lib.hid hw3; have HP5 : Hid ((w3.alloc (.cells #[.int .i64 s2, .int .i64 p2, .slice A3 B n3, .bool false] 48)).cell? ⟨w.heap.size, 1, none⟩ = some (.int .i64 t)) := Lib.hid (((below_new4 w3 _).cell (p := ⟨w.heap.size, 1, none⟩) (Nat.lt_of_lt_of_le hwr HB3.out.size)).trans ((HB3.out.cell (p := ⟨w.heap.size, 1, none⟩) hwr).trans p1)); clear hs3 hb3 hw3))
                all_goals
                  go_wp2
                  go_roundw
                  case rel =>
                    have hb5 := below_new4 w3 (.cells #[.int .i64 s2, .int .i64 p2, .slice A3 B n3, .bool false] 48)
                    have hs3 := HS3.out
                    rw [HFT.out] at hs3
                    have hd3 : Dt w3 (pl v (.slice A9 n9 c9) k) (.slice A3 B n3) (full B (r2.take cv)) := ⟨A3, n3, by rw [full_length], by rw [full_length]; exact hn3, by rw [full_length]; exact hs3, fun e => absurd e ho3, fun _ a ha => by
                      have h1 := HW3.out a ha
                      have h2 : wr.heap.size ≤ a.block := Nat.le_trans HB1.out.size h1
                      rw [pl_other (fun e => by have := (HR.out.own.lt _ e).2; omega)]
                      exact HFR.out _ (Nat.le_trans HB.out.size h2)⟩
                    have hbl := ((HR.out.below HB3.out).below hb5).more (q := ⟨s2, p2, r2.take cv, false⟩) hk HG6.out (HA6.out.imp id (fun e => by rw [e]; simp)) HO6.out (hd3.below hb5)
                    have hb35 := HB3.out.trans (hb5.mono HB3.out.size)
                    have hb6 := (HB.out.trans (hb35.mono HB.out.size)).grown HG6.out (HB.out.trans (hb35.mono HB.out.size)).size (fun q hq => (HR.out.own.lt q hq).1)
                    have hbl2 : Hid (Bl w0.heap.size w6 v k B (.slice (some ⟨g6, 0, none⟩) (m + 1) cap6) (m + 1) (crash f 0 (L.take (j + 1))) (R ++ [((⟨s2, p2, r2.take cv, false⟩ : Pg), Value.slice A3 B n3)])) := Lib.hid (by rw [HCN2.out]; exact hbl)
                    have hdn2 : Hid (n + 1 = (dirt (L.take (j + 1))).length) := Lib.hid HDN.out.symm
                    first
                      | exact ⟨j + 1, m + 1, n + 1, _, by omega, by omega, by omega, by go_num, by go_num, hdn2, hbl2, Lib.hid hb6⟩
                      | ((repeat apply Exists.intro); exact ⟨⟨j + 1, m + 1, n + 1, _, by omega, by omega, by omega, by go_num, by go_num, hdn2, hbl2, Lib.hid hb6⟩, rfl⟩)
                  case measure => simp [intOf]; omega
              · have hcd : decide ((0 : Int) < cv) = false := decide_eq_false (by omega)
                have HCN2 : Hid (crash f 0 (L.take (j + 1)) = crash f 0 (L.take j)) := Lib.hid (by have := HCN.out; rw [HFN.out, if_pos (show cv = 0 by omega)] at this; simpa using this)
                have hb1 := below_new4 wr (.cells #[.int .i64 s2, .int .i64 p2, .slice A2 B c2', .bool true] 48)
                have HBX := Lib.hid hb1
                clear hb1
                have hcv0 : cv = 0 := by omega
                go_wp2
                go_roundw
                case rel =>
                  exact ⟨j + 1, m, n + 1, R, by omega, by omega, by omega, by go_num, by go_num, Lib.hid HDN.out.symm, by rw [HCN2.out]; exact Lib.hid (HR.out.below HBX.out), Lib.hid (HB.out.trans (HBX.out.mono HB.out.size))⟩
                case measure => simp [intOf]; omega
            · have hnte : ((n : Int) == t) = false := by simpa using hnt
              have hntn : ((n : Int) != t) = true := by simpa using hnt
              have htb := tbit K n
              have HFN : Hid (f n = if K / 2 ^ n % 2 = 1 then B else 0) := Lib.hid (by rw [HFK.out]; unfold keep; rw [if_neg hnt])
              have hb1 := below_new4 wr (.cells #[.int .i64 s2, .int .i64 p2, .slice A2 B c2', .bool true] 48)
              have HBX := Lib.hid hb1
              clear hb1 hnt
              by_cases hbit : K / 2 ^ n % 2 = 1
              · rw [decide_eq_true hbit] at htb
                have hn64 : n < 64 := Decidable.byContradiction fun h => by rw [high_bit HKK.out h] at hbit; omega
                have hn64i : (n : Int) < 64 := by omega
                have HCN2 : Hid (crash f 0 (L.take (j + 1)) = crash f 0 (L.take j) ++ [⟨s2, p2, r2.take B, false⟩]) := Lib.hid (by
                  have := HCN.out
                  rw [HFN.out, if_pos hbit, if_neg (show ¬ B = 0 by omega)] at this
                  simpa using this)
                have HX2 := HX
                rw [show full B r2 = full B (r2.take B) by rw [List.take_of_length_le HLEN.out]] at HX2
                have HBY2 := Lib.hid (HBX.out.alloc HBX.out.size (.cells #[.int .i64 s2, .int .i64 p2, .slice A2 B c2', .bool false] 48))
                clear hbit
                go_wp2_with (at_builtin; refine wpList_append_lies (o := ⟨some 85, _, _, _, _, _⟩) _ rfl (.tmp 78) (.tmp 84) 40 rfl w0.heap.size 48 i0 _ 4 48 Try.underlying40 HI.out HZ.out HSZ.out HBY.out rfl (by decide) _ m (quads R) rfl (own_belowN HR.out.own HBY2.out) ⟨wr.heap.size + 1, 0, none⟩ 1 1 [.int .i64 s2, .int .i64 p2, .slice A2 B c2', .bool false] rfl rfl (new_cells2 wr _ _ #[.int .i64 s2, .int .i64 p2, .slice A2 B c2', .bool false]) (by simp [Value.oneCell']) (by omega) (by unfold maxLen; omega) (by omega) (by have := HB.out.size; simp; omega) _ rfl ?_; intro g6 cap6 w6 hown6 hgrow6 hat6 hlt6)
                go_roundw
                case rel =>
                  have hbl := (HR.out.below HBY2.out).more (q := ⟨s2, p2, r2.take B, false⟩) hk hgrow6 (hat6.imp id (fun e => by rw [e]; exact Nat.le_refl _)) hown6 (HX2.out.below HBY2.out)
                  have hb6 := (HB.out.trans (HBY2.out.mono HB.out.size)).grown hgrow6 (HB.out.trans (HBY2.out.mono HB.out.size)).size (fun q hq => (HR.out.own.lt q hq).1)
                  exact ⟨j + 1, m + 1, n + 1, R ++ [((⟨s2, p2, r2.take B, false⟩ : Pg), Value.slice A2 B c2')], by omega, by omega, by omega, by go_num, by go_num, Lib.hid HDN.out.symm, by rw [HCN2.out]; exact Lib.hid hbl, Lib.hid hb6⟩
                case measure => simp [intOf]; omega
              · rw [decide_eq_false hbit] at htb
                have HCN2 : Hid (crash f 0 (L.take (j + 1)) = crash f 0 (L.take j)) := Lib.hid (by have := HCN.out; rw [HFN.out, if_neg hbit] at this; simpa using this)
                clear hbit
                by_cases hn64 : (n : Int) < 64
                · go_wp2
                  go_roundw
                  case rel =>
                    exact ⟨j + 1, m, n + 1, R, by omega, by omega, by omega, by go_num, by go_num, Lib.hid HDN.out.symm, by rw [HCN2.out]; exact Lib.hid (HR.out.below HBX.out), Lib.hid (HB.out.trans (HBX.out.mono HB.out.size))⟩
                  case measure => simp [intOf]; omega
                · have hn64d : decide ((n : Int) < 64) = false := decide_eq_false hn64
                  go_wp2
                  go_roundw
                  case rel =>
                    exact ⟨j + 1, m, n + 1, R, by omega, by omega, by omega, by go_num, by go_num, Lib.hid HDN.out.symm, by rw [HCN2.out]; exact Lib.hid (HR.out.below HBX.out), Lib.hid (HB.out.trans (HBX.out.mono HB.out.size))⟩
                  case measure => simp [intOf]; omega
        · obtain rfl : j = N := by omega
          have hx := HD.out.ltx
          have HTK : Hid (L.take j = L) := Lib.hid (List.take_of_length_le (by rw [HN.out]; exact Nat.le_refl _))
          obtain ⟨A9, n9, c9, rfl⟩ := own_slice9 HR.out.own
          have hxb0 : xb < w0.heap.size := Nat.lt_of_lt_of_le HXB.out HB0.out.size
          have hh3 := (HB.out.block xb hxb0).trans HH.out
          have c3r : wr.cell? ⟨xb, 3, none⟩ = some (.slice A j cu) := by simp [World.cell?, hh3]
          have f3r : wr.frozen? ⟨xb, 3, none⟩ = false := by simp [World.frozen?, hh3]
          clear hh3
          go_wp2
          go_end0
          have hR := HR.out
          rw [HTK.out] at hR
          have hown : wr.ownsRow w.heap.size 48 4 (.slice A9 n9 c9) m (quads R) := by
            refine ⟨hR.own.1, ?_⟩
            rcases hR.own.2 with h1 | ⟨g, c, cur, h1, h2, h3⟩
            · exact .inl h1
            · exact .inr ⟨g, c, cur, h1, Nat.le_trans HB0.out.size h2, h3⟩
          have hfin := HD.out.relist (M := crash f 0 L) (R := R) hk (HD.out.ok.crash f) (HB0.out.trans (HB.out.mono HB0.out.size)) hown (by rw [hR.len, ← hR.is, List.length_map]) hR.is hR.data
          exact ⟨rfl, _, hfin.1, hfin.2⟩
end
end Go.Proofs.Ytgnncbbfbhipaaa
