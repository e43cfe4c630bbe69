/-
  The program's device: Erase.
-/
import Derived.Test.YtndbjdnfibpicaaRFlashDelete
import Derived.StillTailTactics
import Derived.Deep.AppendLies
namespace Go.Proofs.YtndbjdnfibpicaaR
open Go.ChangeShapes Go.WideShapes Go.ChangeAt Go.RowKit Fl
set_option maxRecDepth 100000

section
variable {k S P B db mb : Nat} {w w' : World} {v : Nat → Nat} {L : List Pg}
theorem Pm.some_iff {f : Int → Int → Option Value} (h : ∀ s p, (lk L s p = none ∧ f s p = none) ∨ ∃ r x, lk L s p = some r ∧ f s p = some x ∧ Dt w v x r) (s p : Int) : (f s p).isSome = (lk L s p).isSome := by
  rcases h s p with ⟨e1, e2⟩ | ⟨r, x, e1, e2, _⟩ <;> rw [e1, e2] <;> rfl
theorem Pm.drew (h : Pm w v mb L) : Pm w.drew v mb L := h
theorem own_slice {base e size n : Nat} {u : Value} {xs : List Value} (h : w.ownsRow base e size u n xs) : ∃ A n c, u = .slice A n c := by
  rcases h.2 with ⟨rfl, _⟩ | ⟨g, c, cur, rfl, _⟩
  · exact ⟨_, _, _, rfl⟩
  · exact ⟨_, _, _, rfl⟩
theorem gb_undrew {row : Option Nat} (h : w.drew.grownBy w' row) : w.grownBy w' row := ⟨h.os, h.tape, h.output, h.size, h.block⟩
/-- a page is deleted -/
theorem Pm.drop (h : Pm w v mb L) (ha : Ap L) {s p : Int} (hs : W64 s) (hp : W64 p) (hm : v mb = k) (hk : k ≠ 0) (hf : Fr w v) (ty : TypeId) :
    ∃ w', (Builtin.delete_ #[57, 51] ty #[.map (some mb), kv s p]).run Try.prog w = .ok (.tuple #[]) w' ∧ w.mapTurned w' mb ∧ Pm w' v mb (del s p L) := by
  obtain ⟨f, h1, h2⟩ := h
  obtain ⟨w', hrun, ht, hm2⟩ := h1.drop hs hp ty
  refine ⟨w', hrun, ht, upd f s p none, ?_, fun s2 p2 => ?_⟩
  · rw [Pm.some_iff h2] at hm2
    rw [del_len ha]
    exact hm2
  · rw [lk_del]
    unfold upd
    by_cases e : s2 = s ∧ p2 = p
    · rw [if_pos e, if_pos e]
      exact .inl ⟨rfl, rfl⟩
    · rw [if_neg e, if_neg e]
      rcases h2 s2 p2 with h3 | ⟨r, x, h3, h4, h5⟩
      · exact .inl h3
      · exact .inr ⟨r, x, h3, h4, h5.stp (Stp.turned ht hm hf) hk⟩
theorem wpList_drop_pm {ops : Array Oper} {rest : List Oper} {o : Oper} {a : Act} {Q : Exit → Act → World → Prop} (hg : o.guard = none) (m x : Operand)
    (hop : o.op = Op.call { callee := Callee.builtin Builtin.delete, args := #[m, x], argTypes := #[57, 51] }) (hmm : a.eval m = .map (some mb)) {s p : Int} (hx : a.eval x = kv s p)
    (h : Pm w v mb L) (ha : Ap L) (hs : W64 s) (hp : W64 p) (hm : v mb = k) (hk : k ≠ 0) (hf : Fr w v)
    (hK : ∀ w', Hid (w.mapTurned w' mb) → Hid (Pm w' v mb (del s p L)) → wpList Try.prog ops Q rest (a.put o.dst (.tuple #[])) w') : wpList Try.prog ops Q (o :: rest) a w := by
  refine wpList_plain hg fun K' hK' => ?_
  obtain ⟨w', hrun, h1, h2⟩ := h.drop ha hs hp hm hk hf o.type
  unfold Oper.wp
  simp [execOp, hop, resolve, invoke, builtin, hmm, hx, hrun, Result.andThen]
  exact hK' _ _ (hK w' h1 h2)
theorem erase_nil (s : Int) (w : World) : Calls Try.prog 22 #[.pointer none, .int .i64 s] w fun e w' => e = .returned (.int .i64 2) ∧ Below w.heap.size w w' := by
  have hb0 := (Below.refl w.heap.size w).alloc (Nat.le_refl _) (.cells #[.int .i64 s] 3)
  have hp := place_nil s 0 (w.alloc (.cells #[.int .i64 s] 3))
  go_enter Try.func22, Try.ntmps22
  go_wp2_with (go_at_call 45; (with_reducible refine hp.mono ?_); rintro e w1 ⟨rfl, hb1⟩; unfold kv; have hb2 := hb0.trans (hb1.mono hb0.size))
  go_ret
  exact ⟨rfl, hb2.alloc hb2.size _⟩
theorem erase_out (h : Dev w v k S P B db mb L) (s : Int) (hin : ¬ (0 ≤ s ∧ s < S)) : Calls Try.prog 22 #[.pointer (some ⟨db, 0, none⟩), .int .i64 s] w fun e w' => e = .returned (.int .i64 6) ∧ Below w.heap.size w w' := by
  have hb0 := (Below.refl w.heap.size w).alloc (Nat.le_refl _) (.cells #[.int .i64 s] 3)
  have hpl := place_any (h.below hb0) s 0
  unfold PlaceTo at hpl
  rw [if_neg (fun h => hin ⟨h.1, h.2.1⟩)] at hpl
  clear h hin
  go_enter Try.func22, Try.ntmps22
  go_wp2_with (go_at_call 45; (with_reducible refine hpl.mono ?_); rintro e w1 ⟨rfl, hb1⟩; unfold kv; have hb2 := hb0.trans (hb1.mono hb0.size))
  go_ret
  exact ⟨rfl, hb2.alloc hb2.size _⟩
/-- what an erased segment comes to -/
theorem Dev.wiped (h : Dev w v k S P B db mb L) (hk : k ≠ 0) {s : Int} {u u' : Value} (hu : w.heap[db]? = some (.cells #[.int .i64 S, .int .i64 P, .int .i64 B, .map (some mb), u] 60 (0, 0))) (hub : ∀ g, u.ownBlock = some g → v g = k ∧ g ≠ db ∧ g ≠ mb)
    {w0 w3 w4 : World} (hb0 : Below w.heap.size w w0) (hg3 : w0.grownBy w3 (some mb)) (hm : Pm w3 v mb (erase s L)) (hg4 : w3.grownBy w4 u.ownBlock) (hrow : w4.ownsRow 0 51 2 u' (others s (dirt L)).length (duos (others s (dirt L)))) (hbk : u'.ownBlock = u.ownBlock) :
    Dev (w4.setCell ⟨db, 4, none⟩ u') v k S P B db mb (erase s L) ∧ Stp k w (w4.setCell ⟨db, 4, none⟩ u') v v := by
  have hd := h.ltd
  have st0 : Stp k w w0 v v := Stp.below hb0 h.fr
  have st3 : Stp k w w3 v v := st0.trans (Stp.grown hg3 (fun g e => by injection e with e; rw [← e]; exact h.vm) st0.fresh)
  have t4 : Stp k w3 w4 v v := Stp.grown hg4 (fun q hq => (hub q hq).1) st3.fresh
  have t5 : Stp k w4 (w4.setCell ⟨db, 4, none⟩ u') v v := Stp.setCell (a := ⟨db, 4, none⟩) h.vd u' t4.fresh
  have st5 : Stp k w (w4.setCell ⟨db, 4, none⟩ u') v v := st3.trans (t4.trans t5)
  have hgs : w4.grownBy (w4.setCell ⟨db, 4, none⟩ u') (some db) := ⟨rfl, rfl, rfl, by simp [World.setCell], fun i _ hi => Below.heap_setCell w4 _ _ i fun e => hi (by rw [e])⟩
  have eo : others s (dirt L) = dirt (erase s L) := (dirt_erase s L).symm
  refine ⟨⟨h.shp, h.ok.filter _, st5.fresh, h.vd, h.vm, h.ne, ⟨u', ?_, ?_, fun g hg => hub g (by rw [← hbk]; exact hg)⟩, ?_⟩, st5⟩
  · have e0 : w0.heap[db]? = w.heap[db]? := hb0.block db hd
    have e3 : w3.heap[db]? = w0.heap[db]? := hg3.block db (Nat.lt_of_lt_of_le hd st0.size) (by intro e; injection e with e; exact h.ne e.symm)
    have e4 : w4.heap[db]? = w3.heap[db]? := hg4.block db (Nat.lt_of_lt_of_le hd st3.size) (by intro e; exact (hub db e.symm).2.1 rfl)
    have e : w4.heap[db]? = some (.cells #[.int .i64 S, .int .i64 P, .int .i64 B, .map (some mb), u] 60 (0, 0)) := by rw [e4, e3, e0]; exact hu
    simp [World.setCell, Array.getElem?_modify, e]
  · rw [eo] at hrow
    refine hrow.kept hgs ?_
    cases hq : u'.ownBlock with
    | none => exact .inl rfl
    | some g => exact .inr (by simpa using (hub g (by rw [← hbk]; exact hq)).2.1)
  · obtain ⟨f, h1, h2⟩ := hm
    have n4 : some mb ≠ u.ownBlock := fun e => (hub mb e.symm).2.2 rfl
    refine ⟨f, (h1.kept hg4 n4).kept hgs (by simpa using h.ne), fun s2 p2 => ?_⟩
    rcases h2 s2 p2 with h3 | ⟨r, x, h3, h4, h5⟩
    · exact .inl h3
    · exact .inr ⟨r, x, h3, h4, h5.stp (t4.trans t5) hk⟩
set_option maxHeartbeats 4000000 in
theorem erase_in (h : Dev w v k S P B db mb L) (hk : k ≠ 0) (s : Int) (hs : W64 s) (hin : 0 ≤ s ∧ s < S) (hL : L.length ≤ 100000) :
    Calls Try.prog 22 #[.pointer (some ⟨db, 0, none⟩), .int .i64 s] w fun e w' => e = .returned (.int .i64 0) ∧ Dev w' v k S P B db mb (erase s L) ∧ Stp k w w' v v := by
  have hb0 := (Below.refl w.heap.size w).alloc (Nat.le_refl _) (.cells #[.int .i64 s] 3)
  have hpl := place_any (h.below hb0) s 0
  unfold PlaceTo at hpl
  have hp1 := h.shp.p1
  have hp2 := h.shp.p2
  rw [if_pos ⟨hin.1, hin.2, by omega, by omega⟩] at hpl
  obtain ⟨u, hcell, _, _, _, _, _, _, hown, hub⟩ := h.five
  have HD := Lib.hid h
  have HU := Lib.hid hcell
  have HUB := Lib.hid hub
  have HO := Lib.hid hown
  have HDL : Hid ((dirt L).length ≤ 100000) := Lib.hid (Nat.le_trans (dirt_length L) hL)
  clear h hin hcell hub hown
  go_enter Try.func22, Try.ntmps22
  go_wp2_with (go_at_call 45; (with_reducible refine hpl.mono ?_); rintro e w1 ⟨rfl, hb1⟩; unfold kv; have hb2 := hb0.trans (hb1.mono hb0.size); have hb3 := hb2.alloc hb2.size (.cells #[.int .i64 s, .int .i64 0] 51); obtain ⟨_, _, _, c1, _⟩ := (HD.out.below hb3).five; have hsb := ((below_new4 w1 (.cells #[.int .i64 s, .int .i64 0] 51)).cell (p := ⟨w.heap.size, 0, none⟩) (Nat.lt_of_lt_of_le (by simp) hb1.size)).trans ((hb1.cell (p := ⟨w.heap.size, 0, none⟩) (by simp)).trans (show (w.alloc (.cells #[.int .i64 s] 3)).cell? ⟨w.heap.size, 0, none⟩ = some (.int .i64 s) by simp)))
  have HB3 := Lib.hid hb3
  have hlt0 : w.heap.size < (w1.alloc (.cells #[.int .i64 s, .int .i64 0] 51)).heap.size := World.block_lt_of_cell? _ _ hsb
  generalize w1.alloc (.cells #[.int .i64 s, .int .i64 0] 51) = w0 at *
  have HFR : Hid (Fr w0 v) := Lib.hid (HD.out.fr.below HB3.out)
  have HP0 : Hid (Pm w0 v mb (erased s 0 L)) := Lib.hid (by
    rw [erased_zero HD.out.ok]
    exact (HD.out.below HB3.out).map)
  have HU0 : Hid (w0.heap[db]? = some (.cells #[.int .i64 S, .int .i64 P, .int .i64 B, .map (some mb), u] 60 (0, 0))) := Lib.hid ((HB3.out.block db HD.out.ltd).trans HU.out)
  have HSB := Lib.hid hsb
  have HNE : Hid (mb ≠ db ∧ mb < w.heap.size) := Lib.hid ⟨HD.out.ne, HD.out.ltm⟩
  have HVM := Lib.hid HD.out.vm
  clear hb0 hb1 hb2 hb3 hsb hpl
  go_loopw [7, 22] (fun _ i wr => ∃ j : Nat, j ≤ P ∧ i = .int .i64 j ∧ Hid (w0.grownBy wr (some mb)) ∧ Hid (Pm wr v mb (erased s j L))) (fun _ i _ => P - (intOf i).toNat)
  case atStart => exact ⟨0, Nat.zero_le _, rfl, Lib.hid (gb_refl _ _), HP0⟩
  case round =>
    obtain ⟨j, hj, rfl, HG, HP⟩ := hrel
    have hUr : wr.heap[db]? = some (.cells #[.int .i64 S, .int .i64 P, .int .i64 B, .map (some mb), u] 60 (0, 0)) :=
      (HG.out.block db (Nat.lt_of_lt_of_le HD.out.ltd HB3.out.size) (by intro e; injection e with e; exact HNE.out.1 e.symm)).trans HU0.out
    have hsr : wr.cell? ⟨w.heap.size, 0, none⟩ = some (.int .i64 s) := HG.out.cell HSB.out (by intro e; injection e with e; have := HNE.out.2; dsimp only at e; omega)
    by_cases hlt : j < P
    · have c3 : wr.cell? ⟨db, 3, none⟩ = some (.map (some mb)) := by simp [World.cell?, hUr]
      have hwj : W64 (j : Int) := WalkArith.wf_i64 (by omega)
      have HWJ := Lib.hid hwj
      have HWS := Lib.hid hs
      have hfr : Fr wr.drew v := fun i hi => HFR.out i (Nat.le_trans HG.out.size hi)
      have HFD := Lib.hid hfr
      have hjP : (j : Int) < P := by omega
      clear hUr hwj hfr
      go_wp2
      go_still_tail 7, (by kernel_rfl)
      change wpList _ _ _ _ _ wr.drew
      go_wp2_with (refine wpList_drop_pm (o := ⟨none, _, _, _, _, _⟩) rfl (.tmp 28) (.tmp 31) rfl (mb := mb) rfl (s := s) (p := j) rfl HP.out.drew (HD.out.ok.filter _).ap HWS.out HWJ.out HVM.out hk HFD.out ?_; intro w3 HT3 HP3)
      go_roundw
      case rel => exact ⟨j + 1, by omega, by go_num, Lib.hid (HG.out.trans (gb_undrew HT3.out.grown)), Lib.hid (by rw [erased_succ HD.out.ok]; exact HP3.out)⟩
      case measure => simp [intOf]; omega
    · obtain rfl : j = P := by omega
      have c4 : wr.cell? ⟨db, 4, none⟩ = some u := by simp [World.cell?, hUr]
      have f4 : wr.frozen? ⟨db, 4, none⟩ = false := by simp [World.frozen?, hUr]
      have HOr := HO.out.kept (row := none) (w' := w0) ⟨HB3.out.os, HB3.out.tape, HB3.out.output, HB3.out.size, fun i hi _ => HB3.out.block i hi⟩ (Classical.em _)
      have HOr2 := HOr.kept HG.out (.inr fun e => (HUB.out mb e).2.2 rfl)
      have cd := delete_any (x := s) (sb := w.heap.size) HOr2 hsr (fun g hg e => by have := own_lt HO.out hg; omega) HDL.out
      have HPE : Hid (Pm wr v mb (erase s L)) := Lib.hid (by have := HP.out; rwa [erased_all HD.out.ok] at this)
      have HUN : Hid (∀ g, u.ownBlock = some g → g ≠ db) := Lib.hid fun g hg => (HUB.out g hg).2.1
      have HDR : Hid (db < wr.heap.size) := Lib.hid (World.block_lt_of_cell? _ _ c4)
      clear hUr hsr HOr HOr2
      go_wp2_with (go_at_call 46; (with_reducible refine cd.mono ?_); rintro e w4 ⟨u4, rfl, hr4, hk4, hg4⟩; obtain ⟨A4, n4, c4', rfl⟩ := own_slice hr4; have c5 := hg4.cell c4 (show some db ≠ u.ownBlock from fun e => HUN.out db e.symm rfl); have f5 := (hg4.frozen_far ⟨db, 4, none⟩ HDR.out (fun e => HUN.out db e.symm rfl)).trans f4; have HR4 := Lib.hid hr4; have HK4 := Lib.hid hk4; have HG4 := Lib.hid hg4; clear hr4 hk4 hg4)
      go_ret
      exact ⟨rfl, HD.out.wiped hk HU.out HUB.out HB3.out HG.out HPE.out HG4.out HR4.out HK4.out⟩
end
end Go.Proofs.YtndbjdnfibpicaaR
