/-
  The document's Piece.
-/
import Derived.Test.YtcmhodimkpkmbaaDoorIxBound
namespace Go.Proofs.YtcmhodimkpkmbaaDoor
open Go.ChangeShapes Go.WideShapes Go.ChangeAt Go.RowKit
set_option maxRecDepth 100000

theorem sc_info : (Tryd.prog.info? 49).map (fun i => (i.zero, i.size, i.bytes)) = some (some (.agg #[.int .i64 0, .int .i64 0, .int .i64 0]), 3, 24) := by kernel_rfl
theorem sc_parts : ∃ i, Tryd.prog.info? 49 = some i ∧ i.zero = some (.agg #[.int .i64 0, .int .i64 0, .int .i64 0]) ∧ i.size = 3 ∧ i.bytes = 24 := by
  have h := sc_info
  cases hi : Tryd.prog.info? 49 with
  | none => rw [hi] at h; cases h
  | some i =>
    rw [hi] at h
    simp only [Option.map_some, Option.some.injEq, Prod.mk.injEq] at h
    exact ⟨i, rfl, h.1, h.2.1, h.2.2⟩
/-- a row of the call's own that is just these slices -/
def OwnS (w : World) (base : Nat) (v : Value) (L : List Ix.Sc) : Prop := w.ownsRow base 49 3 v L.length (scV L)
theorem OwnS.nil (w : World) (base : Nat) : OwnS w base (.slice none 0 0) [] := World.ownsRow_nil _ _ _ _
theorem OwnS.more {w : World} {base m : Nat} {v : Value} {L : List Ix.Sc} {z : Ix.Sc} (hm : m = L.length) (h : w.ownsRow base 49 3 v (m + 1) (scV L ++ [.int .i64 z.1, .int .i64 z.2.1, .int .i64 z.2.2])) : OwnS w base v (L ++ [z]) := by
  subst hm
  show World.ownsRow _ _ _ _ _ (L ++ [z]).length _
  rw [List.length_append, ← scV_append]
  exact h
theorem OwnS.srow {w : World} {base rb : Nat} {v : Value} {L : List Ix.Sc} (h : OwnS w base v L) (hb : rb < base) : SRow w rb v L := by
  have h0 : w.ownsRow base 49 3 v L.length (scV L) := h
  rcases h0.2 with ⟨rfl, hl⟩ | ⟨g, c, cur, rfl, hbg, hg, hnc, hsz, hcur⟩
  · exact ⟨none, 0, by rw [hl], by omega, fun h => by omega⟩
  · refine ⟨some ⟨g, 0, none⟩, c, rfl, hnc, fun _ => ⟨g, 0, cur, rfl, hg, by omega, fun j hj => ?_⟩⟩
    have hl := scV_length L
    have e := h0.cellAt j (by omega)
    rw [Nat.zero_add, e, List.getElem?_eq_getElem hj]
theorem ixPiece_same (rb : Nat) (S : Ix.St) (o gen i : Int) (a : Ix.Ad) (w : World) (h : RIx w rb S) (hm : Ix.may o = false) :
    Calls Tryd.prog 18 #[.pointer (some ⟨rb, 0, none⟩), .int .i64 o, .int .i64 gen, .int .i64 i, adV a] w (IxTo rb (Ix.pc S o gen i a) w) := by
  have hS : Ix.pc S o gen i a = S := by unfold Ix.pc; rw [hm]; rfl
  rw [hS]
  obtain ⟨seg, page⟩ := a
  have hb : Below w.heap.size w (w.alloc (.cells #[.int .i64 seg, .int .i64 page] 30)) := (Below.refl _ w).alloc (Nat.le_refl _) _
  have HP : Hid (IxTo rb S w (.returned (.tuple #[])) (w.alloc (.cells #[.int .i64 seg, .int .i64 page] 30))) := Lib.hid ⟨⟨_, rfl⟩, grown_below hb _, h.below hb⟩
  unfold Ix.may at hm
  by_cases h1 : o < 0
  · have d1 : decide (o < 0) = true := decide_eq_true h1
    clear hm h hS h1 hb
    go_enter Tryd.func18, Tryd.ntmps18
    go_wp2
    exact bodyPost_ret (results_none rfl _ _ _) rfl ⟨⟨_, rfl⟩, HP.out.2⟩
  · have d1 : decide (o < 0) = false := decide_eq_false h1
    have d2 : decide (15 < o) = true := decide_eq_true (by have := of_decide_eq_false hm; omega)
    clear hm h hS h1 hb
    go_enter Tryd.func18, Tryd.ntmps18
    go_wp2
    exact bodyPost_ret (results_none rfl _ _ _) rfl ⟨⟨_, rfl⟩, HP.out.2⟩
set_option maxHeartbeats 8000000 in
theorem ixPiece_yes (rb k : Nat) (S : Ix.St) (gen i : Int) (a : Ix.Ad) (w : World) (h : RIx w rb S) (hk : k < 16) (hr : Ix.Rise (S k).sl) (hn : (S k).sl.length ≤ 100000) :
    Calls Tryd.prog 18 #[.pointer (some ⟨rb, 0, none⟩), .int .i64 (k : Int), .int .i64 gen, .int .i64 i, adV a] w (IxTo rb (Ix.upd S k (Ix.pc1 (S k) gen i a)) w) := by
  obtain ⟨seg, page⟩ := a
  have hrb := h.lt
  obtain ⟨H, hcell, hrows⟩ := h
  obtain ⟨A, c, hH, hAc, hrow⟩ := hrows k hk
  obtain ⟨wz, hwz⟩ : ∃ wz, wz = w.alloc (.cells #[.int .i64 seg, .int .i64 page] 30) := ⟨_, rfl⟩
  have hb : Below w.heap.size w wz := by rw [hwz]; exact (Below.refl _ w).alloc (Nat.le_refl _) _
  have hbl : wz.heap[rb]? = some (.cells (ixC S H).toArray 47 (0, 0)) := (hb.block rb hrb).trans hcell
  have hslot := slot_range hbl hk
  rw [hH] at hslot
  have hzsz : wz.heap.size = w.heap.size + 1 := by rw [hwz]; simp
  have qa : wz.heap[w.heap.size]? = some (.cells [.int .i64 seg, .int .i64 page].toArray 30 (0, 0)) := by rw [hwz]; exact heap_alloc_new w _
  have HADR : Hid (∀ W', Below wz.heap.size wz W' → W'.cell? ⟨w.heap.size, 0, none⟩ = some (.int .i64 seg) ∧ W'.cell? ⟨w.heap.size, 1, none⟩ = some (.int .i64 page)) := Lib.hid fun W' hW => by
    have h9 := (hW.block _ (Array.getElem?_eq_some_iff.1 qa).1).trans qa
    exact ⟨(cells_at h9 0).trans rfl, (cells_at h9 1).trans rfl⟩
  have HSAME : Hid (w.grownBy wz (some rb) ∧ RIx wz rb S) := Lib.hid ⟨grown_below hb _, ⟨H, hbl, fun j hj => (hrows j hj).frame hb.size fun x hx _ => hb.block x hx⟩⟩
  have HPUT : Hid (∀ (W' : World) (L : List Ix.Sc) (vn : Value), Below wz.heap.size wz W' → OwnS W' wz.heap.size vn L → w.grownBy (W'.setCell ⟨rb, k * 12 + 8, none⟩ vn) (some rb) ∧ RIx (W'.setCell ⟨rb, k * 12 + 8, none⟩ vn) rb (Ix.upd S k { S k with sl := L })) := Lib.hid (by
    intro W' L vn hW hown
    have hbl' := (hW.block rb (Nat.lt_of_lt_of_le hrb hb.size)).trans hbl
    have h1 := (Else.refl rb W').setCell (k * 12 + 8) vn
    have hb2 : Below w.heap.size w W' := hb.trans (hW.mono hb.size)
    have hq : ∀ i, i < w.heap.size → i ≠ rb → (W'.setCell ⟨rb, k * 12 + 8, none⟩ vn).heap[i]? = w.heap[i]? := fun i hi hne => (h1.same i hne).trans (hb2.block i hi)
    have hrow2 := hown.srow (rb := rb) (by omega)
    refine ⟨⟨h1.os.trans hb2.os, h1.tape.trans hb2.tape, h1.output.trans hb2.output, by rw [h1.size]; exact hb2.size, fun i hi hne => hq i hi (fun e => hne (by rw [e]))⟩, RIx.put hrows (by rw [h1.size]; exact hb2.size) hq _ vn (slot_set hbl' hk (j := 8) (by omega) vn { S k with sl := L } vn rfl) ?_⟩
    exact hrow2.frame (by rw [h1.size]; exact Nat.le_refl _) (fun i _ hne => h1.same i hne))
  have HTC : Hid (∀ W', Below wz.heap.size wz W' → W'.frozen? ⟨rb, k * 12 + 8, none⟩ = false ∧ W'.cell? ⟨rb, k * 12 + 8, none⟩ = some (.slice A (S k).sl.length c)) := Lib.hid fun W' hW => by
    have hbl' := (hW.block rb (Nat.lt_of_lt_of_le hrb hb.size)).trans hbl
    refine ⟨cells_frozen hbl' _, ?_⟩
    rw [cells_at hbl', ixC_get S H hk (by omega), hH]
    rfl
  have HROW : Hid (∀ W', Below wz.heap.size wz W' → 0 < (S k).sl.length → ∃ g off, A = some ⟨g, off, none⟩ ∧ ∀ j (hj : j < (scV (S k).sl).length), W'.cell? ⟨g, off + j, none⟩ = some (scV (S k).sl)[j]) := Lib.hid fun W' hW h0 => by
    obtain ⟨g, off, cur, h1, h2, h3, h4⟩ := hrow h0
    have hb2 : Below w.heap.size w W' := hb.trans (hW.mono hb.size)
    exact ⟨g, off, h1, fun j hj => (hb2.cell (p := ⟨g, off + j, none⟩) (Array.getElem?_eq_some_iff.1 h2).1).trans (h4 j hj)⟩
  generalize hs : S k = s at *
  obtain ⟨sb, ⟨so, sg, stg, sl, stk⟩, ⟨s1, s2⟩, sc, sf, ⟨t1, t2⟩⟩ := s
  have HWZ := Lib.hid hwz
  have HSK := Lib.hid hs
  have k0 : (0 : Int) ≤ (k : Int) := by omega
  have k1 : (k : Int) < 16 := by omega
  have d1 : decide ((k : Int) < 0) = false := decide_eq_false (by omega)
  have d2 : decide ((15 : Int) < (k : Int)) = false := decide_eq_false (by omega)
  have kw : IntKind.i64.wrap (k : Int) = (k : Int) := IntWalk.i64_in _ (by omega)
  unfold slotC at hslot
  dsimp only at hslot hAc hr hn
  obtain ⟨e0', e1', e2', -, -, -, -, -, e8', -, -, -⟩ := slot_cells hslot
  have e0 : (w.alloc (.cells #[.int .i64 seg, .int .i64 page] 30)).cell? ⟨rb, k * 12, none⟩ = some (.bool sb) := by rw [← hwz]; exact e0'
  have e2 : (w.alloc (.cells #[.int .i64 seg, .int .i64 page] 30)).cell? ⟨rb, k * 12 + 2, none⟩ = some (.int .i64 sg) := by rw [← hwz]; exact e2'
  have e8 : (w.alloc (.cells #[.int .i64 seg, .int .i64 page] 30)).cell? ⟨rb, k * 12 + 8, none⟩ = some (.slice A sc.length c) := by rw [← hwz]; exact e8'
  clear hslot hwz hcell hrows hbl hb hH hrow qa e0' e1' e2' e8'
  obtain ⟨sn, hsn⟩ : ∃ sn, sn = Ix.pc1 ⟨sb, ⟨so, sg, stg, sl, stk⟩, (s1, s2), sc, sf, (t1, t2)⟩ gen i (seg, page) := ⟨_, rfl⟩
  have HSN := Lib.hid hsn
  unfold Ix.pc1 at hsn
  dsimp only at hsn
  by_cases hc : sb = true ∧ sg = gen ∧ 0 ≤ i ∧ i ≤ 4096
  · obtain ⟨rfl, rfl, hi0, hi1⟩ := hc
    rw [if_pos ⟨rfl, rfl, hi0, hi1⟩] at hsn
    have HE := Lib.hid hsn
    have c1 : (sg != sg) = false := by simp
    have c2 : decide (i < 0) = false := decide_eq_false (by omega)
    have c3 : decide (4096 < i) = false := decide_eq_false (by omega)
    clear hsn
    go_enter Tryd.func18, Tryd.ntmps18
    go_wp2
    rw [← HWZ.out]
    clear c1 c2 c3 d1 d2 e0 e2 e8 HSAME
    obtain ⟨i0, hi, hz0, hz1, hz2⟩ := sc_parts
    have HI0 := Lib.hid hi
    have HZ := Lib.hid hz0
    have HSZ := Lib.hid hz1
    have HBY := Lib.hid hz2
    clear hi hz0 hz1 hz2
    have HR := Lib.hid hr
    have HN := Lib.hid hn
    clear hr hn
    go_loopw [10, 11, 58] (fun l d i9 wr => ∃ (j : Nat) (A' : Option Addr) (c' m : Nat), j ≤ sc.length ∧ i9 = .int .i64 j ∧ l = .slice A' m c' ∧ d = .bool (Ix.way i (seg, page) (sc.take j)).done ∧ Hid (m = (Ix.way i (seg, page) (sc.take j)).out.length) ∧ Hid (OwnS wr wz.heap.size (.slice A' m c') (Ix.way i (seg, page) (sc.take j)).out) ∧ Hid (Below wz.heap.size wz wr)) (fun _ _ i9 _ => sc.length - (intOf i9).toNat)
    case atStart => exact ⟨0, none, 0, 0, by omega, rfl, rfl, rfl, Lib.hid rfl, Lib.hid (OwnS.nil _ _), Lib.hid (Below.refl _ _)⟩
    case round =>
      obtain ⟨j, A', c', m, hj, rfl, rfl, rfl, HM, HO, HB⟩ := hrel
      by_cases hlt : j < sc.length
      · obtain ⟨g, off, hA, hcells⟩ := HROW.out wr HB.out (by omega)
        subst hA
        obtain ⟨y0, y1, y2⟩ := scV_get sc j hlt
        have hl3 := scV_length sc
        have r0 := hcells (j * 3) (by omega)
        have r1 := hcells (j * 3 + 1) (by omega)
        have r2 := hcells (j * 3 + 2) (by omega)
        rw [List.getElem?_eq_getElem (by omega)] at y0 y1 y2
        rw [Option.some.inj y0] at r0
        rw [Option.some.inj y1, ← Nat.add_assoc] at r1
        rw [Option.some.inj y2, ← Nat.add_assoc] at r2
        have htk := Ix.way_snoc i (seg, page) (sc.take j) sc[j]
        rw [← List.take_succ_eq_append_getElem hlt] at htk
        have hml := Ix.way_len i (seg, page) (sc.take j)
        rw [List.length_take, ← HM.out] at hml
        have HML : Hid (m ≤ 200000) := Lib.hid (by have := HN.out; omega)
        have hNN := HN.out
        generalize sc[j] = z at *
        obtain ⟨zi, z1, z2⟩ := z
        dsimp only at r0 r1 r2
        have HTK := Lib.hid htk
        have hjc : (j : Int) < (sc.length : Int) := by omega
        have ha0 := fun X => (HADR.out (wr.alloc X) (HB.out.alloc HB.out.size X)).1
        have ha1 := fun X => (HADR.out (wr.alloc X) (HB.out.alloc HB.out.size X)).2
        have HJ := Lib.hid hlt
        clear hcells y0 y1 y2 hl3 htk hml
        generalize Ix.way i (seg, page) (sc.take j) = wo at *
        obtain ⟨out, dn⟩ := wo
        dsimp only at HM HO ⊢
        have hm := HM.out
        have HOW : Hid (wr.ownsRow wz.heap.size 49 3 (.slice A' m c') m (scV out)) := Lib.hid (by
          have h9 : wr.ownsRow wz.heap.size 49 3 (.slice A' m c') out.length (scV out) := HO.out
          rwa [← hm] at h9)
        have HSX : Hid (∀ X Y, wz.heap.size ≤ ((wr.alloc X).alloc Y).heap.size) := Lib.hid fun X Y => by have := HB.out.size; simp; omega
        clear hm
        by_cases b1 : i ≤ zi
        · have q1 : decide (i ≤ zi) = true := decide_eq_true b1
          cases dn
          · by_cases b3 : zi = i
            · have q3 : (zi != i) = false := by simp [b3]
              have HW : Hid (Ix.way i (seg, page) (sc.take (j + 1)) = ⟨out ++ [(i, (seg, page))], true⟩) := Lib.hid (by rw [HTK.out]; unfold Ix.step; simp [b3])
              clear b1 b3
              go_wp2_with (at_builtin; refine wpList_append_one (o := ⟨some 75, _, _, _, _, _⟩) rfl (.tmp 70) (.tmp 74) 42 rfl wz.heap.size 49 i0 (.agg #[.int .i64 0, .int .i64 0, .int .i64 0]) 3 24 Tryd.underlying42 HI0.out HZ.out HSZ.out HBY.out rfl (by decide) _ m (scV out) rfl (World.ownsRow.alloc (World.ownsRow.alloc HOW.out _) _) ⟨wr.heap.size + 1, 0, none⟩ 1 [.int .i64 i, .int .i64 seg, .int .i64 page] rfl rfl (by have h9 := new_cells (wr.alloc (.cells #[.int .i64 zi, .int .i64 z1, .int .i64 z2] 49)) 49 #[.int .i64 i, .int .i64 seg, .int .i64 page]; rwa [World.size_alloc] at h9) (scV_one [(i, (seg, page))]) (by have := HML.out; omega) (by have := HML.out; omega) (HSX.out _ _) ?_; intro v2 w2 HO2 HG2; obtain ⟨A2, c2, rfl, -, -⟩ := Vs.of_ownN HO2.out; have hbb := ((HB.out.alloc HB.out.size (.cells #[.int .i64 zi, .int .i64 z1, .int .i64 z2] 49)).alloc (by simp; have := HB.out.size; omega) (.cells #[.int .i64 i, .int .i64 seg, .int .i64 page] 49)).grown HG2.out (HSX.out _ _) (fun p hp => (HO.out.lt p hp).1); have hzb : w2.heap[wr.heap.size]? = some (.cells [.int .i64 zi, .int .i64 z1, .int .i64 z2].toArray 49 (0, 0)) := (HG2.out.block wr.heap.size (by simp; omega) (fun e => by have := (HO.out.lt _ e.symm).2; omega)).trans ((Below.heap_alloc _ _ _ (by simp)).trans (heap_alloc_new wr _)); have x0 := (cells_at hzb 0).trans rfl; have x1 := (cells_at hzb 1).trans rfl; have x2 := (cells_at hzb 2).trans rfl; have HBB := Lib.hid hbb; clear hbb hzb)
              go_roundw
              case rel => exact ⟨j + 1, A2, c2, m + 1, HJ.out, by go_num, rfl, by rw [HW.out], Lib.hid (by rw [HW.out, HM.out]; simp), Lib.hid (by rw [HW.out]; exact OwnS.more (z := (i, (seg, page))) HM.out HO2.out), Lib.hid (((HB.out.alloc HB.out.size _).alloc (by simp; have := HB.out.size; omega) _).grown HG2.out (HSX.out _ _) (fun p hp => (HO.out.lt p hp).1))⟩
              case measure => simp [intOf]; omega
            · have q3 : (zi != i) = true := by simpa using b3
              have HW : Hid (Ix.way i (seg, page) (sc.take (j + 1)) = ⟨out ++ [(i, (seg, page))] ++ [(zi, (z1, z2))], true⟩) := Lib.hid (by rw [HTK.out]; unfold Ix.step; simp [b1, b3])
              clear b1 b3
              go_wp2_with (first
                | (at_builtin; refine wpList_append_one (o := ⟨some 75, _, _, _, _, _⟩) rfl (.tmp 70) (.tmp 74) 42 rfl wz.heap.size 49 i0 (.agg #[.int .i64 0, .int .i64 0, .int .i64 0]) 3 24 Tryd.underlying42 HI0.out HZ.out HSZ.out HBY.out rfl (by decide) _ m (scV out) rfl (World.ownsRow.alloc (World.ownsRow.alloc HOW.out _) _) ⟨wr.heap.size + 1, 0, none⟩ 1 [.int .i64 i, .int .i64 seg, .int .i64 page] rfl rfl (by have h9 := new_cells (wr.alloc (.cells #[.int .i64 zi, .int .i64 z1, .int .i64 z2] 49)) 49 #[.int .i64 i, .int .i64 seg, .int .i64 page]; rwa [World.size_alloc] at h9) (scV_one [(i, (seg, page))]) (by have := HML.out; omega) (by have := HML.out; omega) (HSX.out _ _) ?_; intro v2 w2 HO2 HG2; obtain ⟨A2, c2, rfl, -, -⟩ := Vs.of_ownN HO2.out; have hbb := ((HB.out.alloc HB.out.size (.cells #[.int .i64 zi, .int .i64 z1, .int .i64 z2] 49)).alloc (by simp; have := HB.out.size; omega) (.cells #[.int .i64 i, .int .i64 seg, .int .i64 page] 49)).grown HG2.out (HSX.out _ _) (fun p hp => (HO.out.lt p hp).1); have hzb : w2.heap[wr.heap.size]? = some (.cells [.int .i64 zi, .int .i64 z1, .int .i64 z2].toArray 49 (0, 0)) := (HG2.out.block wr.heap.size (by simp; omega) (fun e => by have := (HO.out.lt _ e.symm).2; omega)).trans ((Below.heap_alloc _ _ _ (by simp)).trans (heap_alloc_new wr _)); have x0 := (cells_at hzb 0).trans rfl; have x1 := (cells_at hzb 1).trans rfl; have x2 := (cells_at hzb 2).trans rfl; have HBB := Lib.hid hbb; clear hbb hzb)
                | (at_builtin; refine wpList_append_one (o := ⟨some 83, _, _, _, _, _⟩) rfl (.tmp 80) (.tmp 82) 42 rfl wz.heap.size 49 i0 (.agg #[.int .i64 0, .int .i64 0, .int .i64 0]) 3 24 Tryd.underlying42 HI0.out HZ.out HSZ.out HBY.out rfl (by decide) _ (m + 1) (scV out ++ [.int .i64 i, .int .i64 seg, .int .i64 page]) rfl (World.ownsRow.alloc HO2.out _) ⟨w2.heap.size, 0, none⟩ 1 [.int .i64 zi, .int .i64 z1, .int .i64 z2] rfl rfl (new_cells w2 _ #[.int .i64 zi, .int .i64 z1, .int .i64 z2]) (scV_one [(zi, (z1, z2))]) (by have := HML.out; omega) (by have := HML.out; omega) (by have := HBB.out.size; simp; omega) ?_; intro v3 w3 HO3 HG3))
              obtain ⟨A3, c3, rfl, -, -⟩ := Vs.of_ownN HO3.out
              go_roundw
              case rel => exact ⟨j + 1, A3, c3, m + 1 + 1, HJ.out, by go_num, rfl, by rw [HW.out], Lib.hid (by rw [HW.out, HM.out]; simp), Lib.hid (by rw [HW.out]; exact OwnS.more (m := m + 1) (z := (zi, (z1, z2))) (by rw [List.length_append, HM.out]; rfl) (by have h9 := HO3.out; rwa [show scV out ++ [.int .i64 i, .int .i64 seg, .int .i64 page] = scV (out ++ [(i, (seg, page))]) from scV_append out [(i, (seg, page))]] at h9)), Lib.hid ((HBB.out.alloc HBB.out.size _).grown HG3.out (by have := HBB.out.size; simp; omega) (fun p hp => (HO2.out.lt p hp).1))⟩
              case measure => simp [intOf]; omega
          · by_cases b3 : zi = i
            · have q3 : (zi != i) = false := by simp [b3]
              have HW : Hid (Ix.way i (seg, page) (sc.take (j + 1)) = ⟨out, true⟩) := Lib.hid (by rw [HTK.out]; unfold Ix.step; simp [b3])
              clear b1 b3
              go_wp2
              go_roundw
              case rel => exact ⟨j + 1, A', c', m, HJ.out, by go_num, rfl, by rw [HW.out], Lib.hid (by rw [HW.out]; exact HM.out), Lib.hid (by rw [HW.out]; exact World.ownsRow.alloc HO.out _), Lib.hid (HB.out.alloc HB.out.size _)⟩
              case measure => simp [intOf]; omega
            · have q3 : (zi != i) = true := by simpa using b3
              have HW : Hid (Ix.way i (seg, page) (sc.take (j + 1)) = ⟨out ++ [(zi, (z1, z2))], true⟩) := Lib.hid (by rw [HTK.out]; unfold Ix.step; simp [b3])
              clear b1 b3
              go_wp2_with (at_builtin; refine wpList_append_one (o := ⟨some 83, _, _, _, _, _⟩) rfl (.tmp 80) (.tmp 82) 42 rfl wz.heap.size 49 i0 (.agg #[.int .i64 0, .int .i64 0, .int .i64 0]) 3 24 Tryd.underlying42 HI0.out HZ.out HSZ.out HBY.out rfl (by decide) _ m (scV out) rfl (World.ownsRow.alloc (World.ownsRow.alloc HOW.out _) _) ⟨wr.heap.size + 1, 0, none⟩ 1 [.int .i64 zi, .int .i64 z1, .int .i64 z2] rfl rfl (by have h9 := new_cells (wr.alloc (.cells #[.int .i64 zi, .int .i64 z1, .int .i64 z2] 49)) 49 #[.int .i64 zi, .int .i64 z1, .int .i64 z2]; rwa [World.size_alloc] at h9) (scV_one [(zi, (z1, z2))]) (by have := HML.out; omega) (by have := HML.out; omega) (HSX.out _ _) ?_; intro v2 w2 HO2 HG2)
              obtain ⟨A2, c2, rfl, -, -⟩ := Vs.of_ownN HO2.out
              go_roundw
              case rel => exact ⟨j + 1, A2, c2, m + 1, HJ.out, by go_num, rfl, by rw [HW.out], Lib.hid (by rw [HW.out, HM.out]; simp), Lib.hid (by rw [HW.out]; exact OwnS.more (z := (zi, (z1, z2))) HM.out HO2.out), Lib.hid (((HB.out.alloc HB.out.size _).alloc (by simp; have := HB.out.size; omega) _).grown HG2.out (HSX.out _ _) (fun p hp => (HO.out.lt p hp).1))⟩
              case measure => simp [intOf]; omega
        · have q1 : decide (i ≤ zi) = false := decide_eq_false b1
          have q3 : (zi != i) = true := by simp; omega
          have HW : Hid (Ix.way i (seg, page) (sc.take (j + 1)) = ⟨out ++ [(zi, (z1, z2))], dn⟩) := Lib.hid (by
            rw [HTK.out]
            unfold Ix.step
            have b3 : zi ≠ i := by omega
            simp [b1, b3])
          clear b1
          go_wp2_with (at_builtin; refine wpList_append_one (o := ⟨some 83, _, _, _, _, _⟩) rfl (.tmp 80) (.tmp 82) 42 rfl wz.heap.size 49 i0 (.agg #[.int .i64 0, .int .i64 0, .int .i64 0]) 3 24 Tryd.underlying42 HI0.out HZ.out HSZ.out HBY.out rfl (by decide) _ m (scV out) rfl (World.ownsRow.alloc (World.ownsRow.alloc HOW.out _) _) ⟨wr.heap.size + 1, 0, none⟩ 1 [.int .i64 zi, .int .i64 z1, .int .i64 z2] rfl rfl (by have h9 := new_cells (wr.alloc (.cells #[.int .i64 zi, .int .i64 z1, .int .i64 z2] 49)) 49 #[.int .i64 zi, .int .i64 z1, .int .i64 z2]; rwa [World.size_alloc] at h9) (scV_one [(zi, (z1, z2))]) (by have := HML.out; omega) (by have := HML.out; omega) (HSX.out _ _) ?_; intro v2 w2 HO2 HG2)
          obtain ⟨A2, c2, rfl, -, -⟩ := Vs.of_ownN HO2.out
          go_roundw
          case rel => exact ⟨j + 1, A2, c2, m + 1, HJ.out, by go_num, rfl, by rw [HW.out], Lib.hid (by rw [HW.out, HM.out]; simp), Lib.hid (by rw [HW.out]; exact OwnS.more (z := (zi, (z1, z2))) HM.out HO2.out), Lib.hid (((HB.out.alloc HB.out.size _).alloc (by simp; have := HB.out.size; omega) _).grown HG2.out (HSX.out _ _) (fun p hp => (HO.out.lt p hp).1))⟩
          case measure => simp [intOf]; omega
      · obtain rfl : j = sc.length := by omega
        have hfin := Ix.fin_way i (seg, page) sc HR.out
        rw [List.take_length] at HM HO ⊢
        have hml := Ix.way_len i (seg, page) sc
        rw [← HM.out] at hml
        have HML : Hid (m ≤ 200000) := Lib.hid (by have := HN.out; omega)
        have t1' := (HTC.out wr HB.out).1
        have t2' := (HTC.out wr HB.out).2
        have ha0 := (HADR.out wr HB.out).1
        have ha1 := (HADR.out wr HB.out).2
        have HFIN := Lib.hid hfin
        clear hml hfin
        generalize Ix.way i (seg, page) sc = wo at *
        obtain ⟨out, dn⟩ := wo
        dsimp only at HM HO ⊢
        cases dn
        · have hm := HM.out
          have HOW : Hid (wr.ownsRow wz.heap.size 49 3 (.slice A' m c') m (scV out)) := Lib.hid (by
            have h9 : wr.ownsRow wz.heap.size 49 3 (.slice A' m c') out.length (scV out) := HO.out
            rwa [← hm] at h9)
          clear hm
          go_wp2_with (at_builtin; refine wpList_append_one (o := ⟨some 92, _, _, _, _, _⟩) rfl (.tmp 87) (.tmp 91) 42 rfl wz.heap.size 49 i0 (.agg #[.int .i64 0, .int .i64 0, .int .i64 0]) 3 24 Tryd.underlying42 HI0.out HZ.out HSZ.out HBY.out rfl (by decide) _ m (scV out) rfl (World.ownsRow.alloc HOW.out _) ⟨wr.heap.size, 0, none⟩ 1 [.int .i64 i, .int .i64 seg, .int .i64 page] rfl rfl (new_cells wr _ #[.int .i64 i, .int .i64 seg, .int .i64 page]) (scV_one [(i, (seg, page))]) (by have := HML.out; omega) (by have := HML.out; omega) (by have := HB.out.size; simp; omega) ?_; intro v2 w2 HO2 HG2; obtain ⟨A2, c2, rfl, -, -⟩ := Vs.of_ownN HO2.out; have hb2 := (HB.out.alloc HB.out.size (.cells #[.int .i64 i, .int .i64 seg, .int .i64 page] 49)).grown HG2.out (by have := HB.out.size; simp; omega) (fun p hp => (HO.out.lt p hp).1); have t3' := (HTC.out w2 hb2).1; have t4' := (HTC.out w2 hb2).2; have HB2 := Lib.hid hb2; clear hb2)
          have ho3 : OwnS w2 wz.heap.size (.slice A2 (m + 1) c2) (Ix.ins i (seg, page) sc) := by
            rw [← HFIN.out]
            exact OwnS.more (z := (i, (seg, page))) HM.out HO2.out
          have h9 := HPUT.out w2 _ _ HB2.out ho3
          exact bodyPost_ret (results_none rfl _ _ _) rfl ⟨⟨_, rfl⟩, by rw [← HSN.out, HE.out]; exact h9⟩
        · have ho3 : OwnS wr wz.heap.size (.slice A' m c') (Ix.ins i (seg, page) sc) := by
            rw [← HFIN.out]
            exact HO.out
          have h9 := HPUT.out wr _ _ HB.out ho3
          have HP9 := Lib.hid h9
          clear ho3 h9
          go_wp2
          exact bodyPost_ret (results_none rfl _ _ _) rfl ⟨⟨_, rfl⟩, by rw [← HSN.out, HE.out]; exact HP9.out⟩
  · rw [if_neg hc] at hsn
    have HE : Hid (w.grownBy wz (some rb) ∧ RIx wz rb (Ix.upd S k sn)) := Lib.hid (by
      rw [hsn, ← HSK.out, Ix.upd_id]
      exact HSAME.out)
    cases sb
    · clear hc hsn hr hn
      go_enter Tryd.func18, Tryd.ntmps18
      go_wp2
      rw [← HWZ.out]
      exact bodyPost_ret (results_none rfl _ _ _) rfl ⟨⟨_, rfl⟩, by rw [← HSN.out]; exact HE.out⟩
    · by_cases h1 : sg = gen
      · subst h1
        have c1 : (sg != sg) = false := by simp
        by_cases h2 : i < 0
        · have c2 : decide (i < 0) = true := decide_eq_true h2
          clear hc hsn hr hn h2
          go_enter Tryd.func18, Tryd.ntmps18
          go_wp2
          rw [← HWZ.out]
          exact bodyPost_ret (results_none rfl _ _ _) rfl ⟨⟨_, rfl⟩, by rw [← HSN.out]; exact HE.out⟩
        · have c2 : decide (i < 0) = false := decide_eq_false h2
          have c3 : decide (4096 < i) = true := decide_eq_true (by
            rcases Int.lt_or_le 4096 i with h3 | h3
            · exact h3
            · exact absurd ⟨rfl, rfl, by omega, h3⟩ hc)
          clear hc hsn hr hn h2
          go_enter Tryd.func18, Tryd.ntmps18
          go_wp2
          rw [← HWZ.out]
          exact bodyPost_ret (results_none rfl _ _ _) rfl ⟨⟨_, rfl⟩, by rw [← HSN.out]; exact HE.out⟩
      · have c1 : (sg != gen) = true := by simpa using h1
        clear hc hsn hr hn h1
        go_enter Tryd.func18, Tryd.ntmps18
        go_wp2
        rw [← HWZ.out]
        exact bodyPost_ret (results_none rfl _ _ _) rfl ⟨⟨_, rfl⟩, by rw [← HSN.out]; exact HE.out⟩
theorem ixPiece_any (rb : Nat) (S : Ix.St) (o gen i : Int) (a : Ix.Ad) (w : World) (h : RIx w rb S) (hr : Ix.Ok S) (hn : ∀ k, (S k).sl.length ≤ 100000) :
    Calls Tryd.prog 18 #[.pointer (some ⟨rb, 0, none⟩), .int .i64 o, .int .i64 gen, .int .i64 i, adV a] w (IxTo rb (Ix.pc S o gen i a) w) := by
  cases hm : Ix.may o
  · exact ixPiece_same rb S o gen i a w h hm
  · have h2 : 0 ≤ o ∧ o ≤ 15 := of_decide_eq_true hm
    have h3 := ixPiece_yes rb o.toNat S gen i a w h (by omega) (hr _).rise (hn _)
    rw [Int.toNat_of_nonneg h2.1] at h3
    unfold Ix.pc
    rw [hm]
    exact h3
end Go.Proofs.YtcmhodimkpkmbaaDoor
