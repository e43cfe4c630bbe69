/-
  The program's device: Crash.
-/
import Derived.Test.YtgnncbbfbhipaaaFlashErase
import Derived.Test.YtgnncbbfbhipaaaFlashKept
import Derived.Test.YtgnncbbfbhipaaaFlashWrite
namespace Go.Proofs.Ytgnncbbfbhipaaa
open Go.ChangeShapes Go.WideShapes Go.ChangeAt Go.RowKit Fl
set_option maxRecDepth 100000

theorem crashed_len (f : Nat → Nat) (L : List Pg) : ∀ i m, (Fl.crashed f i m L).length ≤ L.length := by
  induction L with
  | nil => intro i m; simp [Fl.crashed]
  | cons q L ih =>
    intro i m
    unfold Fl.crashed
    split
    · split
      · simp
      · rename_i m'
        have h1 := ih (i + 1) m'
        split
        · simp; omega
        · simp; omega
    · have h1 := ih i m
      simp; omega
section
variable {k S P B db mb : Nat} {w w' : World} {v : Nat → Nat} {L : List Pg}
theorem gb_undrewN {row : Option Nat} {m : Nat} (h : (w.drewN m).grownBy w' row) : w.grownBy w' row := ⟨h.os, h.tape, h.output, h.size, h.block⟩
/-- a page's bytes are fewer -/
theorem Pm.cutAt (h : Pm w v mb L) {s p : Int} {r : List UInt8} {n : Nat} {x : Value} (hr : lk L s p = some r) (hs : W64 s) (hp : W64 p) (hm : v mb = k) (hk : k ≠ 0) (hf : Fr w v) (hx : Dt w v x (r.take n)) (hn : L.length < maxLen) :
    ∃ w', (Instr.mapUpdate 82 (.map (some mb)) (kv s p) x).run Try.prog w = .ok () w' ∧ w.mapTurned w' mb ∧ Pm w' v mb (cut s p n L) := by
  obtain ⟨f, h1, h2⟩ := h
  obtain ⟨w', hrun, ht, hm2⟩ := h1.store hs hp hn x
  refine ⟨w', hrun, ht, upd f s p (some x), ?_, fun s2 p2 => ?_⟩
  · rw [Pm.some_iff h2, hr] at hm2
    rw [cut_length]
    exact hm2
  · rw [lk_cut]
    unfold upd
    by_cases e : s2 = s ∧ p2 = p
    · obtain ⟨rfl, rfl⟩ := e
      rw [if_pos ⟨rfl, rfl⟩, if_pos ⟨rfl, rfl⟩, hr]
      exact .inr ⟨_, _, rfl, rfl, hx.stp (Stp.turned ht hm hf) hk⟩
    · rw [if_neg e, if_neg e]
      rcases h2 s2 p2 with h3 | ⟨r2, x2, h3, h4, h5⟩
      · exact .inl h3
      · exact .inr ⟨r2, x2, h3, h4, h5.stp (Stp.turned ht hm hf) hk⟩
theorem wpList_cut_pm {ops : Array Oper} {rest : List Oper} {o : Oper} {a : Act} {Q : Exit → Act → World → Prop} (hg : o.guard = none) (m x y : Operand)
    (hop : o.op = Op.mapUpdate 82 m x y) (hmm : a.eval m = .map (some mb)) {s p : Int} (hx : a.eval x = kv s p) (val : Value) (hy : a.eval y = val) {r : List UInt8} {n : Nat}
    (h : Pm w v mb L) (hr : lk L s p = some r) (hs : W64 s) (hp : W64 p) (hm : v mb = k) (hk : k ≠ 0) (hf : Fr w v) (hd : Dt w v val (r.take n)) (hn : L.length < maxLen)
    (hK : ∀ w', Hid (w.mapTurned w' mb) → Hid (Pm w' v mb (cut s p n L)) → wpList Try.prog ops Q rest (a.put o.dst undef) w') : wpList Try.prog ops Q (o :: rest) a w := by
  refine wpList_plain hg fun K' hK' => ?_
  obtain ⟨w', hrun, h1, h2⟩ := h.cutAt hr hs hp hm hk hf hd hn
  unfold Oper.wp
  simp [execOp, hop, hmm, hx, hy, hrun, Result.andThen]
  exact hK' _ _ (hK w' h1 h2)
/-- what a look-up in the map gives, without a device -/
theorem Pm.lookup (h : Pm w v mb L) {s p : Int} {r : List UInt8} (hr : lk L s p = some r) (hs : W64 s) (hp : W64 p) : ∃ x, (∀ m, (Instr.lookup 82 (.map (some mb)) (kv s p) false).run Try.prog (w.drewN m) = .ok x (w.drewN m)) ∧ Dt w v x r := by
  obtain ⟨f, h1, h2⟩ := h
  rcases h2 s p with ⟨e, _⟩ | ⟨r2, x, e1, e2, hd⟩
  · rw [hr] at e; cases e
  · rw [hr] at e1
    injection e1 with e1
    subst e1
    refine ⟨x, fun m => ?_, hd⟩
    have h3 : Mp (w.drewN m) mb L.length f := h1
    rw [h3.look hs hp false, e2]
    rfl
theorem crash_nil (x0 : Nat) (x1 x2 : Int) (w : World) : Calls Try.prog 32 #[.pointer none, .agg #[.int .u64 x0, .int .i64 x1, .int .i64 x2]] w fun e w' => e = .returned (.tuple #[]) ∧ Below w.heap.size w w' := by
  have hb := below_new4 w (.cells #[.int .u64 x0, .int .i64 x1, .int .i64 x2] 27)
  have hm := fun W => made_no W
  go_enter Try.func32, Try.ntmps32
  go_wp2_with (go_at_call 46; (with_reducible refine (hm _).mono ?_); rintro e w' ⟨rfl, rfl⟩)
  refine bodyPost_ret (results_none rfl _ _ _) rfl ?_
  exact ⟨rfl, hb⟩
set_option maxHeartbeats 4000000 in
theorem crash_any (h : Dev w v k S P B db mb L) (hk : k ≠ 0) (K : Nat) (t c : Int) (hK : K < 18446744073709551616) (hL : L.length ≤ 100000) :
    Calls Try.prog 32 #[.pointer (some ⟨db, 0, none⟩), .agg #[.int .u64 K, .int .i64 t, .int .i64 c]] w fun e w' => e = .returned (.tuple #[]) ∧ Dev w' v k S P B db mb (crash (keep B K t c) 0 L) ∧ Stp k w w' v v := by
  have hb0 := below_new4 w (.cells #[.int .u64 K, .int .i64 t, .int .i64 c] 27)
  have t3 := Three.new w (.int .u64 K) (.int .i64 t) (.int .i64 c) 27
  have hm := made_yes (h.below hb0)
  obtain ⟨u, hcell, -, -, -, -, -, -, hown, hub⟩ := (h.below hb0).five
  have c4 : (w.alloc (.cells #[.int .u64 K, .int .i64 t, .int .i64 c] 27)).cell? ⟨db, 4, none⟩ = some u := by simp [World.cell?, hcell]
  obtain ⟨A, cu, rfl⟩ : ∃ A cu, u = .slice A (dirt L).length cu := by
    rcases hown.2 with ⟨rfl, h0⟩ | ⟨g, c, cur, rfl, _⟩
    · exact ⟨none, 0, by rw [h0]⟩
    · exact ⟨_, c, rfl⟩
  obtain ⟨D, hD⟩ : ∃ D, D = dirt L := ⟨_, rfl⟩
  rw [← hD] at hown c4 hcell
  have hDL : D.length ≤ 100000 := by rw [hD]; exact Nat.le_trans (dirt_length L) hL
  have HDD := Lib.hid hD
  have HD := Lib.hid h
  have HB0 := Lib.hid hb0
  have HU0 := Lib.hid hcell
  have HUB := Lib.hid hub
  have HO := Lib.hid hown
  have HFR : Hid (Fr (w.alloc (.cells #[.int .u64 K, .int .i64 t, .int .i64 c] 27)) v) := Lib.hid (h.fr.below hb0)
  have HP0 : Hid (Pm (w.alloc (.cells #[.int .u64 K, .int .i64 t, .int .i64 c] 27)) v mb (crashed (keep B K t c) 0 0 L)) := Lib.hid (by
    rw [crashed_zero]
    exact (h.below hb0).map)
  have HT := Lib.hid t3
  clear h hcell hub hown hb0 hD t3
  go_enter Try.func32, Try.ntmps32
  go_wp2_with (go_at_call 46; (with_reducible refine hm.mono ?_); rintro e w' ⟨rfl, rfl⟩)
  clear hm
  generalize w.alloc (.cells #[.int .u64 K, .int .i64 t, .int .i64 c] 27) = w0 at *
  have HNE : Hid (mb ≠ db ∧ mb < w.heap.size ∧ db < w.heap.size) := Lib.hid ⟨HD.out.ne, HD.out.ltm, HD.out.ltd⟩
  have HVM := Lib.hid HD.out.vm
  have hkb : ∀ i, keep B K t c i ≤ B := fun i => by unfold keep; split <;> (try split) <;> omega
  have HKB := Lib.hid hkb
  clear hkb
  go_loopw [4, 5, 6, 7, 16] (fun _ _ _ _ i wr => ∃ j : Nat, j ≤ D.length ∧ i = .int .i64 j ∧ Hid (w0.grownBy wr (some mb)) ∧ Hid (Pm wr v mb (crashed (keep B K t c) 0 j L))) (fun _ _ _ _ i _ => D.length - (intOf i).toNat)
  case atStart => exact ⟨0, Nat.zero_le _, rfl, Lib.hid (gb_refl _ _), HP0⟩
  case round =>
    obtain ⟨j, hj, rfl, HG, HP⟩ := hrel
    have hdb0 : db < w0.heap.size := Nat.lt_of_lt_of_le HNE.out.2.2 HB0.out.size
    have hUr : wr.heap[db]? = some (.cells #[.int .i64 S, .int .i64 P, .int .i64 B, .map (some mb), .slice A D.length cu] 84 (0, 0)) :=
      (HG.out.block db hdb0 (by intro e; injection e with e; exact HNE.out.1 e.symm)).trans HU0.out
    by_cases hlt : j < D.length
    · obtain ⟨g, rfl⟩ : ∃ g, A = some ⟨g, 0, none⟩ := by
        rcases HO.out.2 with ⟨_, h0⟩ | ⟨g, c', cur, he, _⟩
        · omega
        · injection he with he _ _
          exact ⟨g, he⟩
      have hOr := HO.out.kept HG.out (.inr fun e => (HUB.out mb e).2.2 rfl)
      obtain ⟨e0, e1, _, _⟩ := own_pair hOr rfl hlt
      obtain ⟨⟨s, p⟩, hsp⟩ : ∃ y, y = D[j] := ⟨_, rfl⟩
      rw [← hsp] at e0 e1
      dsimp only at e0 e1
      have hget : (dirt L)[j]? = some (s, p) := by rw [← HDD.out, List.getElem?_eq_getElem hlt, hsp]
      obtain ⟨q, hq, hqs, hqp⟩ := dirt_mem (List.mem_of_getElem? hget)
      have hin := HD.out.ok.rng q hq
      have hshp := HD.out.shp
      have hws : W64 s := WalkArith.wf_i64 (by have := hin.s0; have := hin.s1; have := hshp.s2; omega)
      have hwp : W64 p := WalkArith.wf_i64 (by have := hin.p0; have := hin.p1; have := hshp.p2; omega)
      have hlk0 : lk L s p = some q.raw := by rw [← hqs, ← hqp]; exact lk_mem HD.out.ok.ap hq
      have hlk : lk (crashed (keep B K t c) 0 j L) s p = some q.raw := by rw [crashed_keep _ HD.out.ok.ap hget j (Nat.le_refl _)]; exact hlk0
      have HLK := Lib.hid hlk
      have HWS := Lib.hid hws
      have HWP := Lib.hid hwp
      have HSUC := Lib.hid (crashed_succ (keep B K t c) L HD.out.ok.ap 0 j s p hget)
      have HAPJ : Hid (Ap (crashed (keep B K t c) 0 j L)) := Lib.hid (HD.out.ok.crashed _ j (by rw [← HDD.out]; exact hj)).ap
      have HLEN : Hid ((crashed (keep B K t c) 0 j L).length < maxLen) := Lib.hid (by unfold maxLen; have := crashed_len (keep B K t c) L 0 j; omega)
      have hplan := HT.out.below (show Below w0.heap.size w0 w0 from Below.refl _ _)
      have hw0 : w.heap.size < w0.heap.size := hplan.1
      obtain ⟨_, k0, k1, k2, _⟩ := hplan
      have nm (o : Nat) : some (⟨w.heap.size, o, none⟩ : Addr).block ≠ some mb := by intro e; injection e with e; have := HNE.out.2.1; dsimp only at e; omega
      have p0 := HG.out.cell k0 (nm 0)
      have p1 := HG.out.cell k1 (nm 1)
      have p2 := HG.out.cell k2 (nm 2)
      have hbx := below_new4 wr (.cells #[.int .i64 s, .int .i64 p] 44)
      have tw := Two.new wr (.int .i64 s) (.int .i64 p) 44
      have hdr : db < wr.heap.size := Nat.lt_of_lt_of_le hdb0 HG.out.size
      have hwr : w.heap.size < wr.heap.size := Nat.lt_of_lt_of_le hw0 HG.out.size
      have ck := kept_at (w := wr.alloc (.cells #[.int .i64 s, .int .i64 p] 44)) ((hbx.block db hdr).trans hUr) K t c j hK
      have HPA : Hid (∀ W, Below wr.heap.size wr W → Pm W v mb (crashed (keep B K t c) 0 j L)) := Lib.hid fun W hb => HP.out.stp (k := k + 1) (Stp.below hb (fun i hi => HFR.out i (Nat.le_trans HG.out.size hi))) (by rw [HVM.out]; omega) (by omega)
      have HUA : Hid (∀ W, Below wr.heap.size wr W → W.cell? ⟨db, 3, none⟩ = some (.map (some mb)) ∧ Fr W v) := Lib.hid fun W hb => ⟨by
        have h1 := (hb.block db hdr).trans hUr
        simp [World.cell?, h1], fun i hi => HFR.out i (Nat.le_trans HG.out.size (Nat.le_trans hb.size hi))⟩
      clear hUr hOr hsp hget hq hqs hqp hin hshp hws hwp hlk0 hlk k0 k1 k2
      have HKJ := Lib.hid (HKB.out j)
      rw [Nat.zero_add] at HSUC
      generalize hn : keep B K t c j = n at ck HSUC HKJ
      clear hn
      by_cases h0 : n = 0
      · subst h0
        rw [if_pos rfl] at HSUC
        go_wp2_with (go_at_call 51; (with_reducible refine ck.mono ?_); rintro e w2 ⟨rfl, hb2⟩; obtain ⟨_, t0, t1⟩ := tw.below hb2; have hb3 := hbx.trans (hb2.mono hbx.size); have c3 := (HUA.out _ hb3).1; have HB3 := Lib.hid hb3)
        clear hb2 hb3
        go_still_tail 5, (by kernel_rfl)
        change wpList _ _ _ _ _ w2.drew
        go_wp2_with (refine wpList_drop_pm (o := ⟨none, _, _, _, _, _⟩) rfl (.tmp 30) (.tmp 31) rfl (mb := mb) rfl (s := s) (p := p) rfl (HPA.out _ HB3.out.drew) HAPJ.out HWS.out HWP.out HVM.out hk (HUA.out _ HB3.out.drew).2 ?_; intro w3 HT3 HP3)
        go_roundw
        case rel => exact ⟨j + 1, by omega, by go_num, Lib.hid (HG.out.trans ((gb_below (gb_refl _ _) HB3.out).trans (gb_undrew HT3.out.grown))), Lib.hid (by rw [HSUC.out]; exact HP3.out)⟩
        case measure => simp [intOf]; omega
      · rw [if_neg h0] at HSUC
        have hne : ((n : Int) == 0) = false := by simpa using h0
        clear h0
        go_wp2_with (go_at_call 51; (with_reducible refine ck.mono ?_); rintro e w2 ⟨rfl, hb2⟩; obtain ⟨_, t0, t1⟩ := tw.below hb2; have hb3 := hbx.trans (hb2.mono hbx.size); have c3 := (HUA.out _ hb3).1; have HB3 := Lib.hid hb3; obtain ⟨x, hrun, hx⟩ := (HPA.out _ hb3).lookup HLK.out HWS.out HWP.out; obtain ⟨A2, c2, rfl, hc2, hbs2, hno2, hv2⟩ := hx)
        have HX : Hid (Dt w2 v (.slice A2 q.raw.length c2) q.raw) := Lib.hid ⟨A2, c2, rfl, hc2, hbs2, hno2, hv2⟩
        unfold kv at hrun
        clear hb2 hb3 hbs2 hno2 hv2
        go_quiet (fail)
        go_wp2
        have HCUT : Hid (Dt (w2.drewN nq).drew v (.slice A2 (min n q.raw.length) c2) (q.raw.take n)) := Lib.hid (by
          have h1 : Dt w2 v (.slice A2 (min n q.raw.length) c2) (q.raw.take (min n q.raw.length)) := HX.out.take (Nat.min_le_right _ _)
          have e : q.raw.take (min n q.raw.length) = q.raw.take n := by
            rcases Nat.le_total n q.raw.length with h | h
            · rw [Nat.min_eq_left h]
            · rw [Nat.min_eq_right h, List.take_length, List.take_of_length_le h]
          rw [e] at h1
          exact h1)
        have hmin : (if q.raw.length < n then (q.raw.length : Int) else (n : Int)) = ((min n q.raw.length : Nat) : Int) := by split <;> omega
        have hm1 : min n q.raw.length ≤ c2 := Nat.le_trans (Nat.min_le_right _ _) hc2
        have HPD : Hid (Pm (w2.drewN nq).drew v mb (crashed (keep B K t c) 0 j L)) := Lib.hid (show Pm w2 v mb _ from HPA.out _ HB3.out)
        have HFD : Hid (Fr (w2.drewN nq).drew v) := Lib.hid (show Fr w2 v from (HUA.out _ HB3.out).2)
        have HB5 : Hid (Below wr.heap.size wr (w2.drewN nq)) := Lib.hid (below_drewN HB3.out nq)
        have c3' : (w2.drewN nq).cell? ⟨db, 3, none⟩ = some (.map (some mb)) := c3
        have t0' : (w2.drewN nq).cell? ⟨wr.heap.size, 0, none⟩ = some (.int .i64 s) := t0
        have t1' : (w2.drewN nq).cell? ⟨wr.heap.size, 1, none⟩ = some (.int .i64 p) := t1
        clear hrun HX hc2 c3 t0 t1 HB3
        generalize w2.drewN nq = w5 at *
        generalize min n q.raw.length = m at *
        generalize q.raw.length = len at *
        go_still_tail 11, (by kernel_rfl)
        change wpList _ _ _ _ _ w5.drew
        go_wp2_with (refine wpList_cut_pm (o := ⟨none, _, _, _, _, _⟩) rfl (.tmp 41) (.tmp 42) (.tmp 48) rfl rfl (mb := mb) (s := s) (p := p) rfl _ rfl HPD.out HLK.out HWS.out HWP.out HVM.out hk HFD.out HCUT.out HLEN.out ?_; intro w3 HT3 HP3)
        go_roundw
        case rel => exact ⟨j + 1, by omega, by go_num, Lib.hid (HG.out.trans ((gb_below (gb_refl _ _) HB5.out).trans (gb_undrew HT3.out.grown))), Lib.hid (by rw [HSUC.out]; exact HP3.out)⟩
        case measure => simp [intOf]; omega
    · obtain rfl : j = D.length := by omega
      have HPE : Hid (Pm wr v mb (crash (keep B K t c) 0 L)) := Lib.hid (by have := HP.out; rwa [HDD.out, crashed_all] at this)
      have cs := sync_at hUr
      have HUR := Lib.hid hUr
      clear hUr
      go_wp2_with (go_at_call 27; (with_reducible refine cs.mono ?_); rintro e w2 ⟨rfl, rfl⟩)
      go_end0
      have st0 : Stp k w wr v v := (Stp.below HB0.out HD.out.fr).trans (Stp.grown HG.out (fun g e => by injection e with e; rw [← e]; exact HVM.out) HFR.out)
      have hfin := Dev.synced HUR.out HD.out.shp (HD.out.ok.crash (keep B K t c)) st0.fresh HD.out.vd HVM.out hk HNE.out.1 HPE.out (dirt_crash _ _ _)
      exact ⟨rfl, hfin.1, st0.trans hfin.2⟩
end
end Go.Proofs.Ytgnncbbfbhipaaa
