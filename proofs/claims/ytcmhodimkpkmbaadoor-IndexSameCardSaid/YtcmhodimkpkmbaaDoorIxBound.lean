/-
  The document's Bound.
-/
import Derived.Test.YtcmhodimkpkmbaaDoorIxLay
import Derived.LoopTactic
import Derived.StillTailTactics
import Derived.BigQuiet
import Derived.Deep.QuietTactic
import Derived.Lib.Strings
namespace Go.Proofs.YtcmhodimkpkmbaaDoor
open Go.ChangeShapes Go.WideShapes Go.ChangeAt Go.RowKit
set_option maxRecDepth 100000

/-- a bind, a place as values -/
abbrev bdV (b : Ix.Bd) : Value := .agg #[.int .i64 b.obj, .int .i64 b.gen, .string b.tag, .int .i64 b.len, .int .i64 b.tick]
abbrev adV (a : Ix.Ad) : Value := .agg #[.int .i64 a.1, .int .i64 a.2]
/-- what a method on the document's index leaves -/
def IxTo (rb : Nat) (S : Ix.St) (W : World) (e : Ending) (W' : World) : Prop := (∃ v, e = .returned v) ∧ W.grownBy W' (some rb) ∧ RIx W' rb S
theorem slot_size : (Tryd.prog.info? 44).map (·.size) = some 12 := by kernel_rfl
theorem grown_below {W W' : World} (h : Below W.heap.size W W') (r : Option Nat) : W.grownBy W' r := ⟨h.os, h.tape, h.output, h.size, fun k hk _ => h.block k hk⟩
/-- all but one block is as it was -/
structure Else (b : Nat) (W W' : World) : Prop where
  size : W'.heap.size = W.heap.size
  os : W'.os = W.os
  tape : W'.tape = W.tape
  output : W'.output = W.output
  same : ∀ i, i ≠ b → W'.heap[i]? = W.heap[i]?
theorem Else.refl (b : Nat) (W : World) : Else b W W := ⟨rfl, rfl, rfl, rfl, fun _ _ => rfl⟩
theorem Else.drew {b : Nat} {W W' : World} (h : Else b W W') : Else b W W'.drew := ⟨h.size, h.os, h.tape, h.output, h.same⟩
theorem Else.drewN {b : Nat} {W W' : World} (h : Else b W W') (m : Nat) : Else b W (W'.drewN m) := ⟨h.size, h.os, h.tape, h.output, h.same⟩
theorem Else.setCell {b : Nat} {W W' : World} (h : Else b W W') (o : Nat) (v : Value) : Else b W (W'.setCell ⟨b, o, none⟩ v) :=
  ⟨by simp [World.setCell, h.size], h.os, h.tape, h.output, fun i hi => (Below.heap_setCell W' ⟨b, o, none⟩ v i hi).trans (h.same i hi)⟩
theorem Else.setCells {b : Nat} {W : World} : ∀ (vs : List Value) (o : Nat) (W' : World), Else b W W' → Else b W (W'.setCells b o vs)
  | [], _, _, h => h
  | v :: r, o, W', h => by
    rw [World.setCells]
    exact Else.setCells r (o + 1) _ (h.setCell o v)
set_option maxHeartbeats 1000000 in
theorem ixBound_far (rb : Nat) (S : Ix.St) (b : Ix.Bd) (a : Ix.Ad) (w : World) (h : RIx w rb S) (hm : Ix.may b.obj = false) :
    Calls Tryd.prog 20 #[.pointer (some ⟨rb, 0, none⟩), bdV b, adV a] w (IxTo rb (Ix.bnd S b a) w) := by
  have hS : Ix.bnd S b a = S := by unfold Ix.bnd; rw [hm]; rfl
  rw [hS]
  obtain ⟨obj, gen, tag, len, tick⟩ := b
  obtain ⟨seg, page⟩ := a
  have hb : Below w.heap.size w ((w.alloc (.cells #[.int .i64 obj, .int .i64 gen, .string tag, .int .i64 len, .int .i64 tick] 25)).alloc (.cells #[.int .i64 seg, .int .i64 page] 30)) := ((Below.refl _ w).alloc (Nat.le_refl _) _).alloc (by simp) _
  have HP : Hid (IxTo rb S w (.returned (.tuple #[])) ((w.alloc (.cells #[.int .i64 obj, .int .i64 gen, .string tag, .int .i64 len, .int .i64 tick] 25)).alloc (.cells #[.int .i64 seg, .int .i64 page] 30))) := Lib.hid ⟨⟨_, rfl⟩, grown_below hb _, h.below hb⟩
  unfold Ix.may at hm
  dsimp only at hm
  by_cases h1 : obj < 0
  · have d1 : decide (obj < 0) = true := decide_eq_true h1
    clear hm h hS h1 hb
    go_enter Tryd.func20, Tryd.ntmps20
    go_wp2
    refine bodyPost_ret (results_none rfl _ _ _) rfl ⟨⟨_, rfl⟩, HP.out.2⟩
  · have d1 : decide (obj < 0) = false := decide_eq_false h1
    have d2 : decide (15 < obj) = true := decide_eq_true (by have := of_decide_eq_false hm; omega)
    clear hm h hS h1 hb
    go_enter Tryd.func20, Tryd.ntmps20
    go_wp2
    refine bodyPost_ret (results_none rfl _ _ _) rfl ⟨⟨_, rfl⟩, HP.out.2⟩
theorem slot_cells {W : World} {rb k : Nat} {x0 x1 x2 x3 x4 x5 x6 x7 x8 x9 x10 x11 : Value} (h : W.rangeAt rb (k * 12) [x0, x1, x2, x3, x4, x5, x6, x7, x8, x9, x10, x11]) :
    W.cell? ⟨rb, k * 12, none⟩ = some x0 ∧ W.cell? ⟨rb, k * 12 + 1, none⟩ = some x1 ∧ W.cell? ⟨rb, k * 12 + 2, none⟩ = some x2 ∧ W.cell? ⟨rb, k * 12 + 3, none⟩ = some x3 ∧ W.cell? ⟨rb, k * 12 + 4, none⟩ = some x4 ∧ W.cell? ⟨rb, k * 12 + 5, none⟩ = some x5 ∧
    W.cell? ⟨rb, k * 12 + 6, none⟩ = some x6 ∧ W.cell? ⟨rb, k * 12 + 7, none⟩ = some x7 ∧ W.cell? ⟨rb, k * 12 + 8, none⟩ = some x8 ∧ W.cell? ⟨rb, k * 12 + 9, none⟩ = some x9 ∧ W.cell? ⟨rb, k * 12 + 10, none⟩ = some x10 ∧ W.cell? ⟨rb, k * 12 + 11, none⟩ = some x11 :=
  ⟨h 0 _ rfl, h 1 _ rfl, h 2 _ rfl, h 3 _ rfl, h 4 _ rfl, h 5 _ rfl, h 6 _ rfl, h 7 _ rfl, h 8 _ rfl, h 9 _ rfl, h 10 _ rfl, h 11 _ rfl⟩
theorem bytes_ne {a b : ByteArray} (h : ¬ a = b) : (a.toList == b.toList) = false := by
  rw [Lib.toList_data, Lib.toList_data]
  refine beq_eq_false_iff_ne.2 fun e => h ?_
  cases a
  cases b
  congr 1
  exact Array.toList_inj.1 e
/-- a slot that nobody set -/
abbrev slotZ : Obj := .cells #[.bool false, .int .i64 0, .int .i64 0, .string ⟨#[]⟩, .int .i64 0, .int .i64 0, .int .i64 0, .int .i64 0, .slice none 0 0, .int .i64 0, .int .i64 0, .int .i64 0] 44
theorem upd_upd (S : Ix.St) (k : Nat) (s t : Ix.Sl) : Ix.upd (Ix.upd S k s) k t = Ix.upd S k t := by
  funext j
  unfold Ix.upd
  split <;> rfl
theorem updH_updH (H : Nat → Value) (k : Nat) (s t : Value) : updH (updH H k s) k t = updH H k t := by
  funext j
  unfold updH
  split <;> rfl
/-- a slot's tick and place are others -/
theorem slot_tick {W : World} {rb : Nat} {S : Ix.St} {H : Nat → Value} (h : W.heap[rb]? = some (.cells (ixC S H).toArray 47 (0, 0))) {k : Nat} (hk : k < 16) (tick : Int) (a : Ix.Ad) :
    (((W.setCell ⟨rb, k * 12 + 5, none⟩ (.int .i64 tick)).setCell ⟨rb, k * 12 + 6, none⟩ (.int .i64 a.1)).setCell ⟨rb, k * 12 + 7, none⟩ (.int .i64 a.2)).heap[rb]? =
      some (.cells (ixC (Ix.upd S k { S k with bind := { (S k).bind with tick := tick }, at_ := a }) (updH H k (H k))).toArray 47 (0, 0)) := by
  have h1 := slot_set h hk (j := 5) (by omega) (.int .i64 tick) { S k with bind := { (S k).bind with tick := tick } } (H k) rfl
  have h2 := slot_set h1 hk (j := 6) (by omega) (.int .i64 a.1) { S k with bind := { (S k).bind with tick := tick }, at_ := (a.1, (S k).at_.2) } (H k) (by rw [Ix.upd_same, show updH H k (H k) k = H k by simp [updH]]; rfl)
  rw [upd_upd, updH_updH] at h2
  have h3 := slot_set h2 hk (j := 7) (by omega) (.int .i64 a.2) { S k with bind := { (S k).bind with tick := tick }, at_ := a } (H k) (by rw [Ix.upd_same, show updH H k (H k) k = H k by simp [updH]]; rfl)
  rw [upd_upd, updH_updH] at h3
  exact h3
set_option maxHeartbeats 4000000 in
theorem ixBound_yes (rb k : Nat) (S : Ix.St) (b : Ix.Bd) (a : Ix.Ad) (w : World) (h : RIx w rb S) (hk : k < 16) (ho : b.obj = (k : Int)) :
    Calls Tryd.prog 20 #[.pointer (some ⟨rb, 0, none⟩), bdV b, adV a] w (IxTo rb (Ix.upd S k (Ix.bnd1 (S k) b a)) w) := by
  obtain ⟨obj, gen, tag, len, tick⟩ := b
  obtain ⟨seg, page⟩ := a
  dsimp only at ho
  subst ho
  have hrb := h.lt
  obtain ⟨H, hcell, hrows⟩ := h
  obtain ⟨A, c, hH, hAc, hrow⟩ := hrows k hk
  obtain ⟨wz, hwz⟩ : ∃ wz, wz = (w.alloc (.cells #[.int .i64 (k : Int), .int .i64 gen, .string tag, .int .i64 len, .int .i64 tick] 25)).alloc (.cells #[.int .i64 seg, .int .i64 page] 30) := ⟨_, rfl⟩
  have hb : Below w.heap.size w wz := by rw [hwz]; exact ((Below.refl _ w).alloc (Nat.le_refl _) _).alloc (by simp) _
  have hbl : wz.heap[rb]? = some (.cells (ixC S H).toArray 47 (0, 0)) := (hb.block rb hrb).trans hcell
  have hslot := slot_range hbl hk
  rw [hH] at hslot
  have zb : Below wz.heap.size wz (wz.alloc slotZ) := (Below.refl _ wz).alloc (Nat.le_refl _) _
  have hslot2 : (wz.alloc slotZ).rangeAt rb (k * 12) (slotC (S k) (.slice A (S k).sl.length c)) := fun j v hv => (zb.cell (p := ⟨rb, k * 12 + j, none⟩) (Nat.lt_of_lt_of_le hrb hb.size)).trans (hslot j v hv)
  have hsz : w.heap.size < wz.heap.size := by rw [hwz]; simp; omega
  generalize hs : S k = s at *
  obtain ⟨sb, ⟨so, sg, stg, sl, stk⟩, ⟨s1, s2⟩, sc, sf, ⟨t1, t2⟩⟩ := s
  have HWZ := Lib.hid hwz
  have k0 : (0 : Int) ≤ (k : Int) := by omega
  have k1 : (k : Int) < 16 := by omega
  have d1 : decide ((k : Int) < 0) = false := decide_eq_false (by omega)
  have d2 : decide ((15 : Int) < (k : Int)) = false := decide_eq_false (by omega)
  have kw : IntKind.i64.wrap (k : Int) = (k : Int) := IntWalk.i64_in _ (by omega)
  have q0 : wz.cell? ⟨w.heap.size, 0, none⟩ = some (.int .i64 (k : Int)) := by rw [hwz]; simp
  have qb : wz.heap[w.heap.size]? = some (.cells [.int .i64 (k : Int), .int .i64 gen, .string tag, .int .i64 len, .int .i64 tick].toArray 25 (0, 0)) := by
    rw [hwz]
    exact (Below.heap_alloc _ _ _ (by simp)).trans (heap_alloc_new w _)
  have qa : wz.heap[w.heap.size + 1]? = some (.cells [.int .i64 seg, .int .i64 page].toArray 30 (0, 0)) := by
    have h9 := heap_alloc_new (w.alloc (.cells #[.int .i64 (k : Int), .int .i64 gen, .string tag, .int .i64 len, .int .i64 tick] 25)) (.cells #[.int .i64 seg, .int .i64 page] 30)
    rw [World.size_alloc] at h9
    rw [hwz]
    exact h9
  have q1 : (wz.alloc slotZ).cell? ⟨w.heap.size, 0, none⟩ = some (.int .i64 (k : Int)) := (zb.cell (p := ⟨w.heap.size, 0, none⟩) hsz).trans q0
  unfold slotC at hslot hslot2
  dsimp only at hslot hslot2 hAc hrow
  obtain ⟨e0, e1, e2, e3, e4, e5, e6, e7, e8, e9, e10, e11⟩ := slot_cells hslot
  obtain ⟨f0, f1, f2, f3, f4, f5, f6, f7, f8, f9, f10, f11⟩ := slot_cells hslot2
  clear hslot hslot2 hwz zb hsz
  have hSS := hs
  obtain ⟨W2, hW2⟩ : ∃ W2, W2 = (wz.alloc (.cells #[.bool sb, .int .i64 so, .int .i64 sg, .string stg, .int .i64 sl, .int .i64 stk, .int .i64 s1, .int .i64 s2, .slice A sc.length c, .int .i64 sf, .int .i64 t1, .int .i64 t2] 44)).drew := ⟨_, rfl⟩
  have HW2 := Lib.hid hW2
  have hb2 : Below w.heap.size w W2 := by rw [hW2]; exact (hb.alloc hb.size _).drew
  have hz2 : Below wz.heap.size wz W2 := by rw [hW2]; exact ((Below.refl _ wz).alloc (Nat.le_refl _) _).drew
  have hbl2 : W2.heap[rb]? = some (.cells (ixC S H).toArray 47 (0, 0)) := (hb2.block rb hrb).trans hcell
  have hbox : W2.heap[wz.heap.size]? = some (.cells [.bool sb, .int .i64 so, .int .i64 sg, .string stg, .int .i64 sl, .int .i64 stk, .int .i64 s1, .int .i64 s2, .slice A sc.length c, .int .i64 sf, .int .i64 t1, .int .i64 t2].toArray 44 (0, 0)) := by rw [hW2]; exact heap_alloc_new wz _
  have HREG : Hid (∀ (Sn : Ix.Sl) (vn : Value) (W' : World), Else rb W2 W' → W'.heap[rb]? = some (.cells (ixC (Ix.upd S k Sn) (updH H k vn)).toArray 47 (0, 0)) → (vn = .slice none 0 0 ∧ Sn.sl = [] ∨ vn = H k ∧ Sn.sl = (S k).sl) → w.grownBy W' (some rb) ∧ RIx W' rb (Ix.upd S k Sn)) := Lib.hid (by
    intro Sn vn W' h1 h6 h7
    have hq : ∀ i, i < w.heap.size → i ≠ rb → W'.heap[i]? = w.heap[i]? := fun i hi hne => (h1.same i hne).trans (hb2.block i hi)
    refine ⟨⟨h1.os.trans hb2.os, h1.tape.trans hb2.tape, h1.output.trans hb2.output, by rw [h1.size]; exact hb2.size, fun i hi hne => hq i hi (fun e => hne (by rw [e]))⟩, RIx.put hrows (by rw [h1.size]; exact hb2.size) hq Sn vn h6 ?_⟩
    rcases h7 with ⟨rfl, h8⟩ | ⟨rfl, h8⟩
    · rw [h8]
      exact SRow.nil _ _
    · rw [h8]
      exact (hrows k hk).frame (by rw [h1.size]; exact hb2.size) hq)
  have hqb2 := (hz2.block _ (Array.getElem?_eq_some_iff.1 qb).1).trans qb
  have hqa2 := (hz2.block _ (Array.getElem?_eq_some_iff.1 qa).1).trans qa
  have hfr := fun j => cells_frozen hbl2 j
  have hrc := slot_cells (x0 := .bool sb) (x1 := .int .i64 so) (x2 := .int .i64 sg) (x3 := .string stg) (x4 := .int .i64 sl) (x5 := .int .i64 stk) (x6 := .int .i64 s1) (x7 := .int .i64 s2) (x8 := .slice A sc.length c) (x9 := .int .i64 sf) (x10 := .int .i64 t1) (x11 := .int .i64 t2) (W := W2) (rb := rb) (k := k) (by
    have h9 := slot_range hbl2 hk
    rw [hH, hSS] at h9
    exact h9)
  have g0 : W2.cell? ⟨wz.heap.size, 0, none⟩ = some (.bool sb) := (cells_at hbox 0).trans rfl
  have g1 : W2.cell? ⟨wz.heap.size, 1, none⟩ = some (.int .i64 so) := (cells_at hbox 1).trans rfl
  have g2 : W2.cell? ⟨wz.heap.size, 2, none⟩ = some (.int .i64 sg) := (cells_at hbox 2).trans rfl
  have g3 : W2.cell? ⟨wz.heap.size, 3, none⟩ = some (.string stg) := (cells_at hbox 3).trans rfl
  have g4 : W2.cell? ⟨wz.heap.size, 4, none⟩ = some (.int .i64 sl) := (cells_at hbox 4).trans rfl
  have g5 : W2.cell? ⟨wz.heap.size, 5, none⟩ = some (.int .i64 stk) := (cells_at hbox 5).trans rfl
  have g9 : W2.cell? ⟨wz.heap.size, 9, none⟩ = some (.int .i64 sf) := (cells_at hbox 9).trans rfl
  have g10 : W2.cell? ⟨wz.heap.size, 10, none⟩ = some (.int .i64 t1) := (cells_at hbox 10).trans rfl
  have g11 : W2.cell? ⟨wz.heap.size, 11, none⟩ = some (.int .i64 t2) := (cells_at hbox 11).trans rfl
  have p0 : W2.cell? ⟨w.heap.size, 0, none⟩ = some (.int .i64 (k : Int)) := (cells_at hqb2 0).trans rfl
  have p1 : W2.cell? ⟨w.heap.size, 1, none⟩ = some (.int .i64 gen) := (cells_at hqb2 1).trans rfl
  have p2 : W2.cell? ⟨w.heap.size, 2, none⟩ = some (.string tag) := (cells_at hqb2 2).trans rfl
  have p3 : W2.cell? ⟨w.heap.size, 3, none⟩ = some (.int .i64 len) := (cells_at hqb2 3).trans rfl
  have p4 : W2.cell? ⟨w.heap.size, 4, none⟩ = some (.int .i64 tick) := (cells_at hqb2 4).trans rfl
  have p5 : W2.cell? ⟨w.heap.size + 1, 0, none⟩ = some (.int .i64 seg) := (cells_at hqa2 0).trans rfl
  have p6 : W2.cell? ⟨w.heap.size + 1, 1, none⟩ = some (.int .i64 page) := (cells_at hqa2 1).trans rfl
  have HB2 := Lib.hid hb2
  have HBL := Lib.hid hbl2
  have HRC := Lib.hid hrc
  have HFR := Lib.hid hfr
  have HRX := Lib.hid hrows
  have HSS := Lib.hid hSS
  have HHV := Lib.hid hH
  have HRB := Lib.hid hrb
  have HCE := Lib.hid hcell
  have hsame : RIx W2 rb S ∧ w.grownBy W2 (some rb) := ⟨⟨H, hbl2, fun j hj => (hrows j hj).frame hb2.size fun i hi _ => hb2.block i hi⟩, grown_below hb2 _⟩
  have HSAME := Lib.hid hsame
  clear hsame hb2 hbl2 hrc hfr hrows hSS hH hrb hcell hbox hqb2 hqa2 hz2 qa qb hrow hAc hb hbl hW2
  go_enter Tryd.func20, Tryd.ntmps20
  go_wp2_with fail
  rw [← HWZ.out]
  go_region
  rw [← HW2.out]
  clear e0 e1 e2 e3 e4 e5 e6 e7 e8 e9 e10 e11 f0 f1 f2 f3 f4 f5 f6 f7 f8 f9 f10 f11 q0 q1
  obtain ⟨sn, hsn⟩ : ∃ sn, sn = Ix.bnd1 ⟨sb, ⟨so, sg, stg, sl, stk⟩, (s1, s2), sc, sf, (t1, t2)⟩ ⟨(k : Int), gen, tag, len, tick⟩ (seg, page) := ⟨_, rfl⟩
  have HSN := Lib.hid hsn
  have HSAM2 : Hid (sn = ⟨sb, ⟨so, sg, stg, sl, stk⟩, (s1, s2), sc, sf, (t1, t2)⟩ → w.grownBy W2 (some rb) ∧ RIx W2 rb (Ix.upd S k sn)) := Lib.hid fun e => by
    rw [e, ← HSS.out, Ix.upd_id]
    exact ⟨HSAME.out.2, HSAME.out.1⟩
  unfold Ix.bnd1 at hsn
  dsimp only at hsn
  by_cases hg : gen ≤ sf
  · have d3 : decide (gen ≤ sf) = true := decide_eq_true hg
    rw [if_pos hg] at hsn
    have HE := Lib.hid hsn
    clear hg hsn
    go_wp2
    exact bodyPost_ret (results_none rfl _ _ _) rfl ⟨⟨_, rfl⟩, by rw [← HSN.out]; exact HSAM2.out HE.out⟩
  · have d3 : decide (gen ≤ sf) = false := decide_eq_false hg
    rw [if_neg hg] at hsn
    by_cases hn : sb = false ∨ sg < gen
    · rw [if_pos hn] at hsn
      have HE := Lib.hid hsn
      have HPUT : Hid (w.grownBy (W2.drew.setCells rb (k * 12) (slotC sn (.slice none 0 0))) (some rb) ∧ RIx (W2.drew.setCells rb (k * 12) (slotC sn (.slice none 0 0))) rb (Ix.upd S k sn)) := Lib.hid (by
        refine HREG.out sn (.slice none 0 0) _ (Else.setCells _ _ _ (Else.refl rb W2).drew) (slot_put (W := W2.drew) HBL.out hk sn _) (.inl ⟨rfl, by rw [HE.out]⟩))
      have HSC : Hid ([.bool true, .int .i64 (k : Int), .int .i64 gen, .string tag, .int .i64 len, .int .i64 tick, .int .i64 seg, .int .i64 page, .slice none 0 0, .int .i64 sf, .int .i64 t1, .int .i64 t2] = slotC sn (.slice none 0 0)) := Lib.hid (by rw [HE.out]; rfl)
      have hT : W2.drew.there rb (k * 12) 12 := fun j hj => by
        have h9 := slot_range HBL.out hk j (slotC (S k) (H k))[j] (List.getElem?_eq_getElem (by rw [slotC_length]; exact hj))
        exact ⟨by rw [show W2.drew.cell? ⟨rb, k * 12 + j, none⟩ = W2.cell? ⟨rb, k * 12 + j, none⟩ from rfl, h9]; rfl, HFR.out _⟩
      have HT := Lib.hid hT
      have d4 : sb = false → decide (sg < gen) = decide (sg < gen) := fun _ => rfl
      clear hsn hT d4
      cases sb
      · clear hn
        go_wp2_with fail
        refine wp_region_still_tail 13 (by kernel_rfl) (by kernel_rfl) ?_
        simp only [List.take_succ_cons, List.take_zero, List.drop_succ_cons, List.drop_zero]
        repeat still_step
        refine wpStill_nil ?_
        change wpList _ _ _ _ _ W2.drew
        refine wpList_store_mid (by rfl) 44 (.tmp 50) (.tmp 47) (by rfl) rb (k * 12) ([.bool true, .int .i64 (k : Int), .int .i64 gen, .string tag, .int .i64 len, .int .i64 tick, .int .i64 seg, .int .i64 page, .slice none 0 0, .int .i64 sf, .int .i64 t1, .int .i64 t2]).toArray (by rfl) (by rfl) HT.out slot_size (by simp [Value.oneCell']) ?_
        rw [List.toList_toArray, HSC.out]
        go_wp2
        exact bodyPost_ret (results_none rfl _ _ _) rfl ⟨⟨_, rfl⟩, by rw [← HSN.out]; exact HPUT.out⟩
      · have d5 : decide (sg < gen) = true := decide_eq_true (by rcases hn with h | h; cases h; exact h)
        clear hn
        go_wp2_with fail
        refine wp_region_still_tail 13 (by kernel_rfl) (by kernel_rfl) ?_
        simp only [List.take_succ_cons, List.take_zero, List.drop_succ_cons, List.drop_zero]
        repeat still_step
        refine wpStill_nil ?_
        change wpList _ _ _ _ _ W2.drew
        refine wpList_store_mid (by rfl) 44 (.tmp 50) (.tmp 47) (by rfl) rb (k * 12) ([.bool true, .int .i64 (k : Int), .int .i64 gen, .string tag, .int .i64 len, .int .i64 tick, .int .i64 seg, .int .i64 page, .slice none 0 0, .int .i64 sf, .int .i64 t1, .int .i64 t2]).toArray (by rfl) (by rfl) HT.out slot_size (by simp [Value.oneCell']) ?_
        rw [List.toList_toArray, HSC.out]
        go_wp2
        exact bodyPost_ret (results_none rfl _ _ _) rfl ⟨⟨_, rfl⟩, by rw [← HSN.out]; exact HPUT.out⟩
    · rw [if_neg hn] at hsn
      have hsb : sb = true := by
        cases sb
        · exact absurd (.inl rfl) hn
        · rfl
      subst hsb
      have d5 : decide (sg < gen) = false := decide_eq_false (fun h => hn (.inr h))
      have HRCO := HRC.out
      obtain ⟨e0, e1, e2, e3, e4, e5, e6, e7, e8, e9, e10, e11⟩ := HRCO
      by_cases ha : gen = sg
      · subst ha
        have c1 : (gen == gen) = true := by simp
        by_cases hb : tag = stg
        · subst hb
          have c2 : (tag.toList == tag.toList) = true := by simp
          by_cases hc : len = sl
          · subst hc
            have c3 : (len == len) = true := by simp
            by_cases hd : stk ≤ tick
            · have c4 : decide (stk ≤ tick) = true := decide_eq_true hd
              rw [if_pos ⟨rfl, rfl, rfl, hd⟩] at hsn
              have HE := Lib.hid hsn
              obtain ⟨W3, hW3⟩ : ∃ W3, W3 = (W2.setCell ⟨rb, k * 12 + 5, none⟩ (.int .i64 tick)).drew := ⟨_, rfl⟩
              have hel : Else rb W2 W3 := by rw [hW3]; exact ((Else.refl rb W2).setCell _ _).drew
              have hrlt := HRB.out
              have hlt2 := HB2.out.size
              have u0 : W3.cell? ⟨w.heap.size, 0, none⟩ = some (.int .i64 (k : Int)) := (World.cell?_of_block (hel.same w.heap.size (by omega))).trans p0
              have u5 : W3.cell? ⟨w.heap.size + 1, 0, none⟩ = some (.int .i64 seg) := (World.cell?_of_block (hel.same (w.heap.size + 1) (by omega))).trans p5
              have u6 : W3.cell? ⟨w.heap.size + 1, 1, none⟩ = some (.int .i64 page) := (World.cell?_of_block (hel.same (w.heap.size + 1) (by omega))).trans p6
              have h3b : W3.heap[rb]? = some (.cells ((ixC S H).set (k * 12 + 5) (.int .i64 tick)).toArray 47 (0, 0)) := by rw [hW3]; exact cells_set HBL.out _ _
              have v6 : W3.cell? ⟨rb, k * 12 + 6, none⟩ = some (.int .i64 s1) := by
                rw [cells_at h3b, List.getElem?_set_ne (by omega), ← cells_at HBL.out]
                exact e6
              have v7 : W3.cell? ⟨rb, k * 12 + 7, none⟩ = some (.int .i64 s2) := by
                rw [cells_at h3b, List.getElem?_set_ne (by omega), ← cells_at HBL.out]
                exact e7
              have z2 := cells_frozen h3b (k * 12 + 6)
              have z3 := cells_frozen h3b (k * 12 + 7)
              have HPUT : Hid (w.grownBy ((W3.drew.setCell ⟨rb, k * 12 + 6, none⟩ (.int .i64 seg)).setCell ⟨rb, k * 12 + 7, none⟩ (.int .i64 page)) (some rb) ∧ RIx ((W3.drew.setCell ⟨rb, k * 12 + 6, none⟩ (.int .i64 seg)).setCell ⟨rb, k * 12 + 7, none⟩ (.int .i64 page)) rb (Ix.upd S k sn)) := Lib.hid (by
                have h9 := slot_tick HBL.out hk tick (seg, page)
                rw [HSS.out] at h9
                rw [HE.out]
                refine HREG.out _ (H k) _ ((hel.drew.setCell _ _).setCell _ _) ?_ (.inr ⟨rfl, by rw [HSS.out]⟩)
                rw [hW3]
                exact h9)
              have HW3 := Lib.hid hW3
              have z1 := HFR.out (k * 12 + 5)
              clear hn hsn hd hel hrlt hlt2 h3b hW3
              go_wp2_with fail
              refine wp_region_still_tail 10 (by kernel_rfl) (by kernel_rfl) ?_
              simp only [List.take_succ_cons, List.take_zero, List.drop_succ_cons, List.drop_zero]
              repeat still_step
              refine wpStill_nil ?_
              change wpList _ _ _ _ _ W2.drew
              go_wp2_with fail
              rw [← HW3.out]
              refine wp_region_still_tail 8 (by kernel_rfl) (by kernel_rfl) ?_
              simp only [List.take_succ_cons, List.take_zero, List.drop_succ_cons, List.drop_zero]
              repeat still_step
              refine wpStill_nil ?_
              change wpList _ _ _ _ _ W3.drew
              go_wp2
              exact bodyPost_ret (results_none rfl _ _ _) rfl ⟨⟨_, rfl⟩, by rw [← HSN.out]; exact HPUT.out⟩
            · have c4 : decide (stk ≤ tick) = false := decide_eq_false hd
              rw [if_neg (fun h => hd h.2.2.2)] at hsn
              have HE := Lib.hid hsn
              clear hn hsn hd
              go_wp2
              exact bodyPost_ret (results_none rfl _ _ _) rfl ⟨⟨_, rfl⟩, by rw [← HSN.out]; exact HSAM2.out HE.out⟩
          · have c3 : (len == sl) = false := by simpa using hc
            rw [if_neg (fun h => hc h.2.2.1)] at hsn
            have HE := Lib.hid hsn
            clear hn hsn hc
            go_wp2
            exact bodyPost_ret (results_none rfl _ _ _) rfl ⟨⟨_, rfl⟩, by rw [← HSN.out]; exact HSAM2.out HE.out⟩
        · have c2 : (tag.toList == stg.toList) = false := bytes_ne hb
          rw [if_neg (fun h => hb h.2.1)] at hsn
          have HE := Lib.hid hsn
          clear hn hsn hb
          go_wp2
          exact bodyPost_ret (results_none rfl _ _ _) rfl ⟨⟨_, rfl⟩, by rw [← HSN.out]; exact HSAM2.out HE.out⟩
      · have c1 : (gen == sg) = false := by simpa using ha
        rw [if_neg (fun h => ha h.1)] at hsn
        have HE := Lib.hid hsn
        clear hn hsn ha
        go_wp2
        exact bodyPost_ret (results_none rfl _ _ _) rfl ⟨⟨_, rfl⟩, by rw [← HSN.out]; exact HSAM2.out HE.out⟩
theorem ixBound_any (rb : Nat) (S : Ix.St) (b : Ix.Bd) (a : Ix.Ad) (w : World) (h : RIx w rb S) :
    Calls Tryd.prog 20 #[.pointer (some ⟨rb, 0, none⟩), bdV b, adV a] w (IxTo rb (Ix.bnd S b a) w) := by
  cases hm : Ix.may b.obj
  · exact ixBound_far rb S b a w h hm
  · have h2 : 0 ≤ b.obj ∧ b.obj ≤ 15 := of_decide_eq_true hm
    unfold Ix.bnd
    rw [hm]
    exact ixBound_yes rb b.obj.toNat S b a w h (by omega) (by omega)
end Go.Proofs.YtcmhodimkpkmbaaDoor
