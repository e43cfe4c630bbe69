/-
  The program's Copy: a device of its own.
-/
import Derived.Test.YtgnncbbfbhipaaaFlashMap2
import Derived.Test.YtgnncbbfbhipaaaFlashLater
namespace Go.Proofs.Ytgnncbbfbhipaaa
open Go.ChangeShapes Go.WideShapes Go.ChangeAt Go.RowKit Fl Go.Maps
set_option maxRecDepth 100000

theorem key_inv2 {s p : Int} {l : Lit} (h : keyOf Try.prog 44 (.agg #[.int .i64 s, .int .i64 p]) = some l) : W64 s ∧ W64 p ∧ l = kl s p := by
  obtain ⟨s', p', e, hs, hp, hl⟩ := key_inv h
  unfold kv at e
  simp only [Value.agg.injEq, Array.mk.injEq, List.cons.injEq, Value.int.injEq, true_and, and_true] at e
  obtain ⟨rfl, rfl⟩ := e
  exact ⟨hs, hp, hl⟩
theorem copy_nil (w : World) : Calls Try.prog 35 #[.pointer none] w fun e w' => e = .returned (.pointer none) ∧ w = w' := by
  have hm := made_no w
  go_enter Try.func35, Try.ntmps35
  go_wp2_with (go_at_call 46; (with_reducible refine hm.mono ?_); rintro e w' ⟨rfl, rfl⟩)
  go_ret
  exact ⟨rfl, rfl⟩
/-- how far the copying has come -/
structure Cp (w wr : World) (v : Nat → Nat) (L : List Pg) (D : DataW Value) (mb nm r : Nat) (f f2 : Int → Int → Option Value) (left : Lit → Bool) (cnt cnt2 : Nat) : Prop where
  rg : wr.ranges Try.prog 44 rdv mb r L.length D left cnt
  mp : Mp wr nm cnt2 f2
  sum : cnt + cnt2 ≤ L.length
  fr : Fr wr v
  le : ∀ s p, W64 s → W64 p → left (kl s p) = true → (f s p).isSome = true
  at_ : ∀ s p, W64 s → W64 p → (f2 s p = none ∧ (left (kl s p) = true ∨ f s p = none)) ∨ (left (kl s p) = false ∧ ∃ t x, lk L s p = some t ∧ f2 s p = some x ∧ Dt wr v x t)
  bel : Below w.heap.size w wr
theorem Cp.step {w wr w1 w3 w4 : World} {v : Nat → Nat} {L : List Pg} {D : DataW Value} {mb nm r k2 : Nat} {f f2 : Int → Int → Option Value} {left : Lit → Bool} {cnt cnt1 cnt2 : Nat} (h : Cp w wr v L D mb nm r f f2 left cnt cnt2)
    (hv1 : v nm = k2) (hv2 : v r = k2) (hk : k2 ≠ 0) (hmb : mb < w.heap.size) (hnm : w.heap.size ≤ nm) (hr : w.heap.size ≤ r) (hrn : r ≠ nm) {s p : Int} (hs : W64 s) (hp : W64 p) (hg1 : wr.grownBy w1 (some r))
    (hrg1 : w1.ranges Try.prog 44 rdv mb r L.length D (fun z => left z && !z.sameKey (kl s p)) cnt1) (hlt : cnt1 < cnt) (hb3 : Below w1.heap.size w1 w3) (ht4 : w3.mapTurned w4 nm)
    {A : Option Addr} {n : Nat} {t : List UInt8} (hm4 : Mp w4 nm (cnt2 + 1) (upd f2 s p (some (.slice A t.length n)))) (hdt : Dt w3 v (.slice A t.length n) t) (hlk : lk L s p = some t) :
    Cp w w4 v L D mb nm r f (upd f2 s p (some (.slice A t.length n))) (fun z => left z && !z.sameKey (kl s p)) cnt1 (cnt2 + 1) := by
  have s1 : Stp k2 wr w1 v v := Stp.grown hg1 (fun g e => by injection e with e; rw [← e]; exact hv2) h.fr
  have s3 : Stp k2 w1 w3 v v := Stp.below hb3 s1.fresh
  have s4 : Stp k2 w3 w4 v v := Stp.turned ht4 hv1 s3.fresh
  have hg3 : w1.grownBy w3 none := ⟨hb3.os, hb3.tape, hb3.output, hb3.size, fun i hi _ => hb3.block i hi⟩
  have hb1 : Below w.heap.size w w1 := h.bel.grown hg1 h.bel.size (fun q e => by injection e with e; rw [← e]; exact hr)
  have hb13 := hb1.trans (hb3.mono hb1.size)
  refine ⟨(hrg1.kept hg3 (by simp) (by simp)).kept ht4.grown (by simp; omega) (by simpa using hrn), hm4, by have := h.sum; omega, s4.fresh, fun s2 p2 hs2 hp2 hl => ?_, fun s2 p2 hs2 hp2 => ?_, hb13.grown ht4.grown hb13.size (fun q e => by injection e with e; rw [← e]; exact hnm)⟩
  · rw [Bool.and_eq_true] at hl
    exact h.le s2 p2 hs2 hp2 hl.1
  · unfold upd
    rw [kl_same hs2 hp2 hs hp]
    by_cases e : s2 = s ∧ p2 = p
    · rw [if_pos e, decide_eq_true e]
      obtain ⟨rfl, rfl⟩ := e
      exact .inr ⟨by simp, t, _, hlk, rfl, hdt.stp s4 hk⟩
    · rw [if_neg e, decide_eq_false e]
      simp only [Bool.not_false, Bool.and_true]
      rcases h.at_ s2 p2 hs2 hp2 with h1 | ⟨h1, t2, x2, h2, h3, h4⟩
      · exact .inl h1
      · exact .inr ⟨h1, t2, x2, h2, h3, h4.stp (s1.trans (s3.trans s4)) hk⟩
def CopyTo (k S P B : Nat) (L : List Pg) (w : World) (v : Nat → Nat) (e : Ending) (w' : World) : Prop :=
  ∃ cb cm v', e = .returned (.pointer (some ⟨cb, 0, none⟩)) ∧ Dev w' v' k S P B cb cm L ∧ (∀ j, Stp j w w' v v') ∧ Below w.heap.size w w'
section
variable {k k2 S P B db mb : Nat} {w : World} {v : Nat → Nat} {L : List Pg}
theorem copy_done {v1 : Nat → Nat} {D : DataW Value} {nm r cnt2 : Nat} {f f2 : Int → Int → Option Value} {left : Lit → Bool} (h : Dev w v k S P B db mb L) (hf1 : Mp w mb L.length f)
    (hf2 : ∀ (s p : Int), lk L s p = none ∧ f s p = none ∨ ∃ r x, lk L s p = some r ∧ f s p = some x ∧ Dt w v x r) {wr : World} (hc : Cp w wr v1 L D mb nm r f f2 left 0 cnt2) (hl : ∀ z, left z = false)
    (hv : v1 = Go.Proofs.Ytgnncbbfbhipaaa.paint (Go.Proofs.Ytgnncbbfbhipaaa.paint v nm k2) r k2) (hnm : nm = w.heap.size) (hr : r = w.heap.size + 1) (hrw : r < wr.heap.size) (hk0 : k2 ≠ 0) {w9 : World} (hb9 : Below wr.heap.size wr w9) {u : Value} (hown : w9.ownsRow wr.heap.size 44 2 u (dirt L).length (duos (dirt L))) :
    CopyTo k2 S P B L w v (.returned (.pointer (some ⟨w9.heap.size, 0, none⟩))) (w9.alloc (.cells #[.int .i64 S, .int .i64 P, .int .i64 B, .map (some nm), u] 84)) := by
  have hsz := hb9.size
  have hb9' := hb9.alloc hsz (.cells #[.int .i64 S, .int .i64 P, .int .i64 B, .map (some nm), u] 84)
  have hbw := hc.bel.trans (hb9'.mono hc.bel.size)
  have hsz2 : (w9.alloc (.cells #[.int .i64 S, .int .i64 P, .int .i64 B, .map (some nm), u] 84)).heap.size = w9.heap.size + 1 := by simp
  have s0 : ∀ j, Stp j wr (w9.alloc (.cells #[.int .i64 S, .int .i64 P, .int .i64 B, .map (some nm), u] 84)) v1 (Go.Proofs.Ytgnncbbfbhipaaa.paint v1 w9.heap.size k2) := fun j => (Stp.below hb9' hc.fr).paint k2 hsz (by omega)
  have t0 : ∀ j, Stp j w (w9.alloc (.cells #[.int .i64 S, .int .i64 P, .int .i64 B, .map (some nm), u] 84)) v (Go.Proofs.Ytgnncbbfbhipaaa.paint v1 w9.heap.size k2) := fun j => by
    rw [hv]
    exact (((Stp.below hbw h.fr).paint k2 (by omega) (by omega)).paint k2 (by omega) (by omega)).paint k2 (by omega) (by omega)
  have hgl : ∀ g, u.ownBlock = some g → wr.heap.size ≤ g ∧ g < w9.heap.size := fun g hg => hown.lt g hg
  have s1 : ∀ j, Stp j wr (w9.alloc (.cells #[.int .i64 S, .int .i64 P, .int .i64 B, .map (some nm), u] 84)) v1 (pl (Go.Proofs.Ytgnncbbfbhipaaa.paint v1 w9.heap.size k2) u k2) := fun j => by
    cases hu : u.ownBlock with
    | none => rw [pl_none hu]; exact s0 j
    | some g => rw [pl_paint hu]; exact (s0 j).paint k2 (hgl g hu).1 (by have := (hgl g hu).2; omega)
  have t1 : ∀ j, Stp j w (w9.alloc (.cells #[.int .i64 S, .int .i64 P, .int .i64 B, .map (some nm), u] 84)) v (pl (Go.Proofs.Ytgnncbbfbhipaaa.paint v1 w9.heap.size k2) u k2) := fun j => by
    cases hu : u.ownBlock with
    | none => rw [pl_none hu]; exact t0 j
    | some g => rw [pl_paint hu]; exact (t0 j).paint k2 (by have := (hgl g hu).1; omega) (by have := (hgl g hu).2; omega)
  have hk2nm : (pl (Go.Proofs.Ytgnncbbfbhipaaa.paint v1 w9.heap.size k2) u k2) nm = k2 := by
    rw [pl_other (fun e => by have := (hgl _ e).1; omega), paint_other (by omega), hv, paint_other (by omega), paint_same]
  have hf2n : ∀ s p, W64 s → W64 p → (f s p).isSome = (f2 s p).isSome := fun s p hs hp => by
    rcases hc.at_ s p hs hp with ⟨h1, h2 | h2⟩ | ⟨h1, t, x, h2, h3, h4⟩
    · rw [hl] at h2; cases h2
    · rw [h1, h2]
    · rcases hf2 s p with ⟨h5, _⟩ | ⟨r5, x5, h5, h6, _⟩
      · rw [h2] at h5; cases h5
      · rw [h3, h6]; rfl
  have hcnt := hf1.recount hc.mp hf2n
  have hmp : Mp (w9.alloc (.cells #[.int .i64 S, .int .i64 P, .int .i64 B, .map (some nm), u] 84)) nm L.length f2 := by
    rw [hcnt]
    exact hc.mp.kept (row := none) ⟨hb9'.os, hb9'.tape, hb9'.output, hb9'.size, fun i hi _ => hb9'.block i hi⟩ (by simp)
  refine ⟨_, nm, _, rfl, ⟨h.shp, h.ok, (t1 0).fresh, ?_, hk2nm, by omega, ⟨u, heap_alloc_new w9 _, ?_, fun g hg => ⟨pl_own hg, by have := (hgl g hg).2; omega, by have := (hgl g hg).1; omega⟩⟩, ?_⟩, t1, hbw⟩
  · rw [pl_other (fun e => by have := (hgl _ e).2; omega)]
    exact paint_same _ _ _
  · have ho := own_belowN hown (below_new4 w9 (.cells #[.int .i64 S, .int .i64 P, .int .i64 B, .map (some nm), u] 84))
    refine ⟨ho.1, ?_⟩
    rcases ho.2 with h1 | ⟨g, c, cur, h1, -, h3⟩
    · exact .inl h1
    · exact .inr ⟨g, c, cur, h1, Nat.zero_le _, h3⟩
  · refine ⟨fun s p => if W64 s ∧ W64 p then f2 s p else none, hmp.congr fun s p hs hp => by rw [if_pos ⟨hs, hp⟩], fun s p => ?_⟩
    by_cases hw : W64 s ∧ W64 p
    · simp only [if_pos hw]
      rcases hc.at_ s p hw.1 hw.2 with ⟨h1, h2 | h2⟩ | ⟨h1, t, x, h2, h3, h4⟩
      · rw [hl] at h2; cases h2
      · rcases hf2 s p with ⟨h5, _⟩ | ⟨r5, x5, h5, h6, _⟩
        · exact .inl ⟨h5, h1⟩
        · rw [h2] at h6; cases h6
      · exact .inr ⟨t, x, h2, h3, h4.stp (s1 k2) hk0⟩
    · simp only [if_neg hw]
      refine .inl ⟨?_, by simp⟩
      cases hk : lk L s p with
      | none => rfl
      | some t =>
        obtain ⟨j, hj, e1, e2, _⟩ := lk_some hk
        have hi := h.ok.rng _ (List.getElem_mem hj)
        obtain ⟨i0, i1, i2, i3, _⟩ := hi
        have b1 := h.shp.s2
        have b2 := h.shp.p2
        exact absurd ⟨WalkArith.wf_i64 (by omega), WalkArith.wf_i64 (by omega)⟩ hw
set_option maxHeartbeats 4000000 in
set_option maxRecDepth 100000 in
theorem copy_any (h : Dev w v k S P B db mb L) (hL : L.length ≤ 100000) (hk2 : k2 ≠ 0) : Calls Try.prog 35 #[.pointer (some ⟨db, 0, none⟩)] w (CopyTo k2 S P B L w v) := by
  have hm := made_yes h
  obtain ⟨u, hcell, c0, c1, c2, c3, c4, -, hown, hub⟩ := h.five
  obtain ⟨f, hf1, hf2⟩ := h.map
  have hlen := fun ty => hf1.len ty
  have hmm := run_makeMapN L.length
  obtain ⟨D, hD1, hD2, hD3⟩ := id hf1
  have HD := Lib.hid h
  have HU := Lib.hid hcell
  have HF1 := Lib.hid hf1
  have HF2 := Lib.hid hf2
  have HO := Lib.hid hown
  have HD3 := Lib.hid hD3
  have HD2 := Lib.hid hD2
  have HD1 := Lib.hid hD1
  have hdlt := h.ltd
  have hmlt := h.ltm
  have HML := Lib.hid hmlt
  have HDLT := Lib.hid hdlt
  have hbA := below_new4 w (.map #[] 0)
  have d3 : (w.alloc (.map #[] 0)).cell? ⟨db, 3, none⟩ = some (.map (some mb)) := (hbA.cell (p := ⟨db, 3, none⟩) hdlt).trans c3
  have HBA := Lib.hid hbA
  have hDA : (w.alloc (.map #[] 0)).ownsMap Try.prog 44 rdv mb L.length D := hD1.kept (row := none) (World.grownBy_alloc _ _ _) (by simp)
  obtain ⟨N, hN⟩ : ∃ N, N = L.length := ⟨_, rfl⟩
  have HLL : Hid (L.length ≤ 100000) := Lib.hid hL
  rw [← hN] at hlen hmm hDA
  have HN := Lib.hid hN
  clear h hcell hf1 hf2 hown hD1 hD2 hD3 hdlt hmlt hbA hub hN hL
  go_enter Try.func35, Try.ntmps35
  go_wp2_with (first
    | (go_at_call 46; (with_reducible refine hm.mono ?_); rintro e w' ⟨rfl, rfl⟩)
    | (at_range; refine wpList_range_own _ rfl _ 82 rfl 44 46 keyLaw Try.underlying82 rdv mb _ _ rfl hDA ?_; intro w0 hrg0 hg0 hs0)
    | go_in)
  go_frame
  have hr9 : (w.alloc (.map #[] 0)).heap.size = w.heap.size + 1 := by simp
  rw [hr9] at hrg0 hs0 ⊢
  obtain ⟨r, hr⟩ : ∃ r, r = w.heap.size + 1 := ⟨_, rfl⟩
  obtain ⟨nm, hnm⟩ : ∃ nm, nm = w.heap.size := ⟨_, rfl⟩
  have HNM := Lib.hid hnm
  have HR := Lib.hid hr
  obtain ⟨v1, hv1⟩ : ∃ v1, v1 = Go.Proofs.Ytgnncbbfbhipaaa.paint (Go.Proofs.Ytgnncbbfbhipaaa.paint v nm k2) r k2 := ⟨_, rfl⟩
  have HV1 := Lib.hid hv1
  have HVN : Hid (v1 nm = k2) := Lib.hid (by rw [hv1, paint_other (by omega), paint_same])
  have HVR : Hid (v1 r = k2) := Lib.hid (by rw [hv1, paint_same])
  rw [HN.out, ← hr] at hrg0
  rw [← hr] at hs0
  have HCP0 : Hid (Cp w w0 v1 L D mb nm r f (fun _ _ => none) (Maps.has D) (Maps.size D) 0) := Lib.hid (by
    have hb0 : Below w.heap.size w w0 := HBA.out.grown hg0 (by omega) (fun _ e => (nomatch e))
    refine ⟨hrg0, ?_, ?_, ?_, fun s p hs hp hl => ?_, fun s p hs hp => ?_, hb0⟩
    · rw [hnm]; exact (Mp.made w).kept hg0 (by simp)
    · rw [HD2.out]; exact Nat.le_refl _
    · intro i hi
      rw [hv1, paint_other (by omega), paint_other (by omega)]
      exact HD.out.fr i (by omega)
    · rw [← (HD3.out s p hs hp).1]; exact hl
    · refine .inl ⟨rfl, ?_⟩
      rw [(HD3.out s p hs hp).1]
      cases f s p
      · exact .inr rfl
      · exact .inl rfl)
  have HRW : Hid (r < w0.heap.size) := Lib.hid (by omega)
  rw [← hr, ← hnm]
  clear hr hnm hv1 hrg0 hg0 hs0 hr9 hDA d3 c3 hlen hmm hm HBA
  go_loopw [4, 5] (fun _ _ wr => ∃ (left : Lit → Bool) (cnt cnt2 : Nat) (f2 : Int → Int → Option Value), Hid (Cp w wr v1 L D mb nm r f f2 left cnt cnt2)) (fun _ _ wr => wr.rangeLeft mb r)
  case atStart => exact ⟨_, _, _, _, HCP0⟩
  case round =>
    obtain ⟨left, cnt, cnt2, f2, HCP⟩ := hrel
    have hrg := HCP.out.rg
    go_wp2_with (first
      | (at_next; refine wpList_next_ranges _ rfl _ rfl 44 keyLaw rdv (fun x : Int × Int => .agg #[.int .i64 x.1, .int .i64 x.2]) (fun y : Value => y) (fun key kl hk => (by obtain ⟨s, p, e, _⟩ := key_inv hk; exact ⟨(s, p), e⟩)) (fun y _ _ => ⟨y, rfl⟩) mb r _ _ _ _ rfl hrg ?_ ?_)
      | go_in)
    · intro hc0 hl0
      have hbw := HCP.out.bel
      have d0 := (hbw.cell (p := ⟨db, 0, none⟩) HDLT.out).trans c0
      have d1 := (hbw.cell (p := ⟨db, 1, none⟩) HDLT.out).trans c1
      have d2 := (hbw.cell (p := ⟨db, 2, none⟩) HDLT.out).trans c2
      have d4 := (hbw.cell (p := ⟨db, 4, none⟩) HDLT.out).trans c4
      have hbd : Below wr.heap.size wr wr.drew := (Below.refl _ _).drew
      have ho := own_belowN (own_belowN HO.out hbw) hbd
      have cc := cloneAddrs_any ho (Nat.le_trans (dirt_length L) (by have := HLL.out; omega))
      have HP0 : Hid (wr.drew.cell? ⟨db, 0, none⟩ = some (.int .i64 S) ∧ wr.drew.cell? ⟨db, 1, none⟩ = some (.int .i64 P) ∧ wr.drew.cell? ⟨db, 2, none⟩ = some (.int .i64 B) ∧ wr.drew.cell? ⟨db, 4, none⟩ = some u) := Lib.hid ⟨d0, d1, d2, d4⟩
      have HL0 := Lib.hid hl0
      have HC0 := Lib.hid hc0
      have HDW : Hid (db < wr.heap.size) := Lib.hid (Nat.lt_of_lt_of_le HDLT.out hbw.size)
      have HRR : Hid (r < wr.heap.size) := Lib.hid HCP.out.rg.lt
      clear hl0 hc0 hbw ho hrg c0 c1 c2 c4
      go_wp2
      go_region_held3 (fun W => W.cell? ⟨db, 0, none⟩ = some (.int .i64 S) ∧ W.cell? ⟨db, 1, none⟩ = some (.int .i64 P) ∧ W.cell? ⟨db, 2, none⟩ = some (.int .i64 B) ∧ W.cell? ⟨db, 4, none⟩ = some u)
        (first | exact HP0.out | exact HP1.out | exact (HP2 _).out)
        ((first
          | (go_at_call 53; (with_reducible refine cc.mono ?_); rintro e w9 ⟨u9, rfl, hown9, hb9⟩; obtain ⟨A9, n9, c9, rfl⟩ := own_slice9 hown9; have HO9 := Lib.hid hown9; have HB9 := Lib.hid (hbd.trans hb9); have HP1 : Hid (w9.cell? ⟨db, 0, none⟩ = some (.int .i64 S) ∧ w9.cell? ⟨db, 1, none⟩ = some (.int .i64 P) ∧ w9.cell? ⟨db, 2, none⟩ = some (.int .i64 B) ∧ w9.cell? ⟨db, 4, none⟩ = some u) := Lib.hid ⟨(hb9.cell (p := ⟨db, 0, none⟩) HDW.out).trans d0, (hb9.cell (p := ⟨db, 1, none⟩) HDW.out).trans d1, (hb9.cell (p := ⟨db, 2, none⟩) HDW.out).trans d2, (hb9.cell (p := ⟨db, 4, none⟩) HDW.out).trans d4⟩; have HP2 := (fun o => have hb := below_new4 w9 o; have hd : db < w9.heap.size := Nat.lt_of_lt_of_le HDW.out HB9.out.size; Lib.hid (And.intro ((hb.cell (p := ⟨db, 0, none⟩) hd).trans HP1.out.1) (And.intro ((hb.cell (p := ⟨db, 1, none⟩) hd).trans HP1.out.2.1) (And.intro ((hb.cell (p := ⟨db, 2, none⟩) hd).trans HP1.out.2.2.1) ((hb.cell (p := ⟨db, 4, none⟩) hd).trans HP1.out.2.2.2))))); clear hown9 hb9)))
      all_goals
        go_wp2
        go_ret
        have hcp := HCP.out
        rw [HC0.out] at hcp
        exact copy_done HD.out HF1.out HF2.out hcp HL0.out HV1.out HNM.out HR.out HRR.out hk2 HB9.out HO9.out
    · intro s p y kl yd ys w1 cnt1 hkey hlk hv hat hrg1 hlt hg1 hs1 hen
      obtain ⟨hws, hwp, rfl⟩ := key_inv2 hkey
      unfold rdv at hv
      injection hv with hv
      injection hv with hv _
      subst hv
      have hfs := HCP.out.le s p hws hwp hlk
      have hat2 := (HD3.out s p hws hwp).2
      rw [hat] at hat2
      injection hat2 with hat2
      obtain ⟨y', hy'⟩ := Option.isSome_iff_exists.1 hfs
      rw [hy', Option.getD_some] at hat2
      subst hat2
      obtain ⟨t, hlkt, hdt⟩ : ∃ t, lk L s p = some t ∧ Dt w v y t := by
        rcases HF2.out s p with ⟨_, h5⟩ | ⟨r5, x5, h5, h6, h7⟩
        · rw [hy'] at h5; cases h5
        · rw [hy'] at h6
          injection h6 with h6
          subst h6
          exact ⟨r5, h5, h7⟩
      have hf2n : f2 s p = none := by
        rcases HCP.out.at_ s p hws hwp with ⟨h5, _⟩ | ⟨h5, _⟩
        · exact h5
        · rw [hlk] at h5; cases h5
      have hb1 : Below w.heap.size w w1 := HCP.out.bel.grown hg1 HCP.out.bel.size (fun q e => by injection e with e; rw [← e]; have := HR.out; omega)
      have hbA := (hb1.alloc hb1.size (.cells #[.int .i64 s, .int .i64 p] 44)).drew
      have cc := cloneBytes_any (hdt.sl.below hbA) (Nat.le_trans (lk_len HD.out.ok hlkt) (by have := HD.out.shp.b2; omega))
      obtain ⟨hl9, t0, t1⟩ := Two.new w1 (.int .i64 s) (.int .i64 p) 44
      have HP0 : Hid ((w1.alloc (.cells #[.int .i64 s, .int .i64 p] 44)).drew.cell? ⟨w1.heap.size, 0, none⟩ = some (.int .i64 s) ∧ (w1.alloc (.cells #[.int .i64 s, .int .i64 p] 44)).drew.cell? ⟨w1.heap.size, 1, none⟩ = some (.int .i64 p)) := Lib.hid ⟨t0, t1⟩
      have HG1 := Lib.hid hg1
      have HRG1 := Lib.hid hrg1
      have HLKT := Lib.hid hlkt
      have HF2N := Lib.hid hf2n
      have HLT := Lib.hid hlt
      have HB1A : Hid (Below w1.heap.size w1 (w1.alloc (.cells #[.int .i64 s, .int .i64 p] 44)).drew) := Lib.hid (below_new4 w1 _).drew
      have HSUM : Hid (cnt2 < maxLen) := Lib.hid (by have h1 := HCP.out.sum; have h2 := HLL.out; unfold maxLen; omega)
      have HWS := Lib.hid hws
      have HWP := Lib.hid hwp
      have HNW1 : Hid (nm < w1.heap.size) := Lib.hid (by have h1 := HCP.out.rg.lt; have h2 := hg1.size; have h3 := HNM.out; have h4 := HR.out; omega)
      clear hs1 hg1 hrg1 hlkt hf2n hlt hfs hat hdt hlk hkey hb1 hbA hws hwp hy' c0 c1 c2 c4
      go_wp2
      go_region_held3 (fun W => W.cell? ⟨w1.heap.size, 0, none⟩ = some (.int .i64 s) ∧ W.cell? ⟨w1.heap.size, 1, none⟩ = some (.int .i64 p))
        (first | exact HP0.out | exact HP1.out | exact HP2.out)
        ((first
          | (go_at_call 52; (with_reducible refine cc.mono ?_); rintro e w3 ⟨A3, n3, rfl, hn3, hs3, ho3, hw3, hb3⟩
             have HP1 : Hid (w3.cell? ⟨w1.heap.size, 0, none⟩ = some (.int .i64 s) ∧ w3.cell? ⟨w1.heap.size, 1, none⟩ = some (.int .i64 p)) := Lib.hid ⟨(hb3.cell (p := ⟨w1.heap.size, 0, none⟩) hl9).trans t0, (hb3.cell (p := ⟨w1.heap.size, 1, none⟩) hl9).trans t1⟩
             have HB3 := Lib.hid (HB1A.out.trans (hb3.mono HB1A.out.size))
             have HM3 : Hid (Mp w3 nm cnt2 f2) := Lib.hid ((HCP.out.mp.kept HG1.out (by have h1 := HNM.out; have h2 := HR.out; simp; omega)).kept (row := none) ⟨HB3.out.os, HB3.out.tape, HB3.out.output, HB3.out.size, fun i hi _ => HB3.out.block i hi⟩ (by simp))
             obtain ⟨w4, hrun4, ht4, hm4⟩ := HM3.out.store HWS.out HWP.out HSUM.out (.slice A3 t.length n3)
             rw [HF2N.out] at hm4
             unfold kv at hrun4
             have hg4 := ht4.grown
             have hqn : some w1.heap.size ≠ some nm := (by have h1 := HNW1.out; simp; omega)
             have HP2 : Hid (w4.cell? ⟨w1.heap.size, 0, none⟩ = some (.int .i64 s) ∧ w4.cell? ⟨w1.heap.size, 1, none⟩ = some (.int .i64 p)) := Lib.hid ⟨hg4.cell HP1.out.1 hqn, hg4.cell HP1.out.2 hqn⟩
             have HFA : Hid (Fr (w1.alloc (.cells #[.int .i64 s, .int .i64 p] 44)).drew v1) := Lib.hid (fun i hi => HCP.out.fr i (Nat.le_trans HG1.out.size (Nat.le_trans HB1A.out.size hi)))
             have HDT3 : Hid (Dt w3 v1 (.slice A3 t.length n3) t) := Lib.hid (Dt.made HFA.out hn3 hs3 ho3 (fun _ => hw3))
             have HT4 := Lib.hid ht4
             have HM4 := Lib.hid hm4
             clear hs3 hb3 ht4 hm4 hg4 hw3 hn3 ho3)))
      go_wp2
      have HST := Lib.hid (HCP.out.step HVN.out HVR.out hk2 HML.out (by have := HNM.out; omega) (by have := HR.out; omega) (by have h1 := HNM.out; have h2 := HR.out; omega) HWS.out HWP.out HG1.out HRG1.out HLT.out HB3.out HT4.out (by simpa using HM4.out) HDT3.out HLKT.out)
      go_roundw
      case rel => exact ⟨fun z => left z && !z.sameKey (kl s p), cnt1, cnt2 + 1, upd f2 s p (some (.slice A3 t.length n3)), HST⟩
      case measure => rw [HST.out.rg.left_eq, HCP.out.rg.left_eq]; exact HLT.out
end
end Go.Proofs.Ytgnncbbfbhipaaa
