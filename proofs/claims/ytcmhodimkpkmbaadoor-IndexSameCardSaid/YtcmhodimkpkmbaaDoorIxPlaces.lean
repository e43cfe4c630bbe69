/-
  What the program's index tells: Places.
-/
import Derived.Test.YtcmhodimkpkmbaaDoorIxPlacesM
import Derived.Test.YtcmhodimkpkmbaaDoorIxAsk
import Derived.Test.YtcmhodimkpkmbaaDoorBitVar
import Derived.Maps.AppendAt
namespace Go.Proofs.YtcmhodimkpkmbaaDoor
open Go.ChangeShapes Go.WideShapes Go.ChangeAt Go.RowKit Go.Shelf
set_option maxRecDepth 100000
attribute [local go_sem] Oper.semAt_some

theorem cell_two_new (w : World) (x y : Value) (t : TypeId) : ∀ j u, [x, y][j]? = some u → (w.alloc (.cells #[x, y] t)).cell? ((⟨w.heap.size, 0, none⟩ : Addr).add j) = some u := by
  intro j u hj
  match j, hj with
  | 0, hj =>
    simp at hj
    subst hj
    simp [Addr.add]
  | 1, hj =>
    simp at hj
    subst hj
    simp [Addr.add]
set_option maxHeartbeats 8000000 in
theorem lxPlaces_any {own : Nat → Prop} {w : World} {cs : List Value} {S : Ix.St} (o : Int) (ht : Tab64 w) (h : LIx own w cs S) (hS : Ix.Ok S) :
    Calls Tryd.prog 25 #[.agg cs.toArray, .int .i64 o] w (AdsTo ((Ix.see S o).sl.map (·.2)) w) := by
  obtain ⟨v, hmo, -, co⟩ := lxOf_any o h
  obtain ⟨mo, rfl⟩ := hmo.map
  have HT := Lib.hid ht
  have HTL := Lib.hid ht.at.lt
  have hok := ok_see hS o
  have cS := fun W (hb : Below w.heap.size w W) => lxSlices_any o (h.below hb) hS
  have hf1 := field_slotA (Ix.see S o) mo
  have hf2 := field_mapA
  have HRG : Hid ((w.alloc (.cells cs.toArray 35)).rangeAt w.heap.size 0 cs) := Lib.hid (IxBox.range (heap_alloc_new w _))
  have HX : Hid (IxBox (w.alloc (.cells cs.toArray 35)) w.heap.size cs) := Lib.hid (heap_alloc_new w _)
  have HSZ : Hid ((Tryd.prog.info? 35).map (·.size) = some cs.length) := Lib.hid (by rw [h.len]; exact ix_size)
  have HB : Hid (Below w.heap.size w (w.alloc (.cells cs.toArray 35))) := Lib.hid ((Below.refl _ w).alloc (Nat.le_refl _) _)
  have HMO := Lib.hid hmo
  have HLST : Hid (Bm.lst (keysOf (Ix.see S o).sl) 4160 = (Ix.see S o).sl.map (·.1)) := Lib.hid (lst_keys hok)
  have HCNT : Hid ((Ix.see S o).sl.length = Bm.cnt (keysOf (Ix.see S o).sl) 4160) := Lib.hid (by rw [← Bm.lst_length, lst_keys hok, List.length_map])
  have HLE := Lib.hid (Bm.cnt_le (keysOf (Ix.see S o).sl) 4160)
  have HRI := Lib.hid hok.rise
  have HNUM := Lib.hid hok.num
  have hA := fun W => all_any (keysOf (Ix.see S o).sl) W
  have HITS := Lib.hid (fun W (h : TabAt W) => all_its (keysOf (Ix.see S o).sl) W.heap.size (W.alloc (.cells (mapC (keysOf (Ix.see S o).sl)).toArray 76)) (MapAt.new W _) (h.below ((Below.refl _ W).alloc (Nat.le_refl _) _)))
  unfold mapV at hA cS
  rw [HLST.out] at HITS
  generalize mapC (keysOf (Ix.see S o).sl) = ds at *
  generalize Bm.cnt (keysOf (Ix.see S o).sl) 4160 = N at *
  generalize Ix.see S o = s at *
  obtain ⟨sl, hsl⟩ : ∃ sl, sl = s.sl := ⟨_, rfl⟩
  rw [← hsl] at HITS HRI HNUM HCNT HMO ⊢
  obtain ⟨i0, hi0, hz0, hz1, hz2⟩ := ad_parts
  clear h hS hmo ht hok HLST
  refine (callsIn_wide (n := 30)).1 ?_
  refine callsIn_of_wp_marks Tryd.func25 rfl trivial ?_ rfl
  simp only [Tryd.ntmps25, List.size_toArray, List.length_cons, List.length_nil, Nat.reduceAdd, Nat.reduceSub, Array.replicate_succ, Array.replicate_zero, List.push_toArray, List.append_toArray, List.nil_append, List.cons_append]
  refine (wpIn_wide (n := 30)).2 ?_
  go_wp2_with (first
    | (refine wpList_load_mid (by rfl) 35 (.tmp 2) (by rfl) w.heap.size 0 (by rfl) cs _ HRG.out Tryd.underlying35 (by rfl) HSZ.out ?_)
    | (go_at_call 21; (with_reducible refine (co _).mono ?_); rintro e w2 ⟨rfl, hb2⟩; have hbb := HB.out.trans (hb2.mono HB.out.size); have HB2 := Lib.hid hbb; have HX2 := Lib.hid (HX.out.below hb2); have hbV := (hbb.alloc hbb.size (.cells #[.map mo] 26)).alloc (by have := hbb.size; simp; omega) (.cells #[.slice none 0 0] 70); have HBV := Lib.hid hbV; have hxV : IxBox ((w2.alloc (.cells #[.map mo] 26)).alloc (.cells #[.slice none 0 0] 70)) w.heap.size cs := (((Below.refl _ w2).alloc (Nat.le_refl _) _).alloc (by simp) _).block _ HX2.out.lt |>.trans HX2.out; have HXV := Lib.hid hxV; clear hb2 hbb hbV hxV)
    | (refine wpList_load_mid (by rfl) 35 (.tmp 2) (by rfl) w.heap.size 0 (by rfl) cs _ HXV.out.range Tryd.underlying35 (by rfl) HSZ.out ?_)
    | (go_at_call 27; (with_reducible refine (cS _ HBV.out).mono ?_); rintro e w4 ⟨rfl, hb4⟩; have HB4 := Lib.hid hb4; clear hb4)
    | (go_at_call 41; (with_reducible refine (hA _).mono ?_); rintro e w5 ⟨rfl, rfl⟩))
  rename_i Kr hKr
  refine (wpIn_wide (n := 30)).1 ?_
  obtain ⟨wb, hwb⟩ : ∃ wb, wb = w2.alloc (.cells #[.map mo] 26) := ⟨_, rfl⟩
  have hs : wb.heap.size = w2.heap.size + 1 := by rw [hwb]; simp
  have hcb : wb.cell? ⟨w2.heap.size, 0, none⟩ = some (.map mo) := cells1 (by rw [hwb]; exact heap_alloc_new w2 _)
  have hbw : Below w.heap.size w wb := by rw [hwb]; exact HB2.out.alloc HB2.out.size _
  have hb4 := HB4.out
  rw [← hwb] at hb4
  have hbb4 : Below wb.heap.size wb w4 := ((Below.refl _ wb).alloc (Nat.le_refl _) (.cells #[.slice none 0 0] 70)).trans (hb4.mono (by simp))
  have hx4 : Boxed w4 wb.heap.size 70 (.slice none 0 0) := (hb4.block _ (by simp)).trans (Boxed.new wb _ _)
  have hits := HITS.out w4 ((HT.out.on (hbw.trans (hbb4.mono hbw.size))).at)
  have hbV : Below wb.heap.size wb (w4.alloc (.cells ds.toArray 76)) := hbb4.alloc hbb4.size _
  have hxV := hx4.alloc (.cells ds.toArray 76)
  generalize (w4.alloc (.cells ds.toArray 76)) = V at *
  have hlow : wb.heap.size < V.heap.size := hxV.lt
  rw [← hs]
  have HW2 := Lib.hid hs
  have hb1lt : w2.heap.size < wb.heap.size := by omega
  have HLK : Hid (∀ X, Below wb.heap.size wb X → ∀ m, m < N → X.cell? ⟨w2.heap.size, 0, none⟩ = some (.map mo) ∧ ∃ a, sl[m]? = some a ∧ numAt (sl.map (·.1)) m = a.1 ∧ (Instr.lookup 26 (.map mo) (.int .i64 a.1) false).run Tryd.prog X = .ok (adV a.2) X) := Lib.hid fun X hX m hm => by
    have hm9 : m < sl.length := by rw [HCNT.out]; exact hm
    have hmem : sl[m] ∈ sl := List.getElem_mem hm9
    have hn := HNUM.out _ hmem
    have hlk := look_run (HMO.out.below (hbw.trans (hX.mono hbw.size))) (i := sl[m].1) (WalkArith.wf_i64 (by omega)) false
    rw [look_of_mem HRI.out hmem] at hlk
    refine ⟨(hX.cell (p := ⟨w2.heap.size, 0, none⟩) hb1lt).trans hcb, sl[m], List.getElem?_eq_getElem hm9, ?_, hlk⟩
    unfold numAt
    rw [List.getD_eq_getElem?_getD, List.getElem?_map, List.getElem?_eq_getElem hm9]
    rfl
  clear hwb hs hsl hcb hb1lt
  refine wpIn_itsF (n := 30) (gf := 44) (lb := #[.pointer (some ⟨w4.heap.size, 0, none⟩)]) rfl all_enters hits (Below.refl _ _) (fun j h => by have := HTL.out; have := hbV.size; have := hbw.size; omega) (fun _ => rfl)
    (fun m X => (∃ v, Boxed X wb.heap.size 70 v ∧ X.ownsRow wb.heap.size 30 2 v m (adL ((sl.map (·.2)).take m)) ∧ True) ∧ Below wb.heap.size wb X)
    (fun _ _ _ => False)
    (OwnFrom.and (Own.from (holdsRow_own wb.heap.size wb.heap.size 70 30 2 (fun m => m) (fun m => adL ((sl.map (·.2)).take m)) (fun _ _ => True)) _) (ownFrom_below (Nat.le_refl _) (by omega)))
    (fun _ _ _ _ _ hs _ _ => hs.elim)
    ⟨⟨_, hxV, ⟨rfl, .inl ⟨rfl, rfl⟩⟩, trivial⟩, hbV⟩
    (fun m a' _ => a' = { tmps := #[.agg cs.toArray, .int .i64 o, .pointer (some ⟨w.heap.size, 0, none⟩), undef, .slice none 0 0, .pointer (some ⟨w2.heap.size, 0, none⟩), .pointer (some ⟨wb.heap.size, 0, none⟩), .int .i64 (numAt (sl.map (·.1)) m), .agg cs.toArray, .int .i64 o, spV s (.map mo), .agg #[.int .i64 s.bind.obj, .int .i64 s.bind.gen, .string s.bind.tag, .int .i64 s.bind.len, .int .i64 s.bind.tick, .map mo], .map mo, .agg cs.toArray, .int .i64 o, .agg ds.toArray, .func (.func 44) #[] #[.pointer (some ⟨w4.heap.size, 0, none⟩)], .int .i64 (numAt (sl.map (·.1)) m), undef, undef, undef, undef, undef, undef, undef], defers := [] })
    (fun m a' _ X Y row hs hg hr => hs)
    ?assign ?body ?done ?stop
  case assign =>
    rintro l2 m X K hm hX ⟨hT, hN⟩ hK
    gi_wp2
    exact hK _ _ (Stay.refl _ _) (KeepsFrom.refl _ _) ⟨hT, hN⟩ rfl
  case body =>
    rintro l2 m a' X hm hX ⟨⟨v, hv, hr, -⟩, hb⟩ rfl
    have hc := hv.cell
    have hle := HLE.out
    obtain ⟨hcell, ⟨x, ⟨a1, a2⟩⟩, hsm, hnum, hlk⟩ := HLK.out X hb m hm
    rw [hnum]
    dsimp only at hlk
    have htk : (sl.map (·.2)).take (m + 1) = (sl.map (·.2)).take m ++ [(a1, a2)] := by
      obtain ⟨h9, e9⟩ := List.getElem?_eq_some_iff.1 hsm
      rw [List.take_succ_eq_append_getElem (by simpa using h9), List.getElem_map, e9]
    clear hsm hnum
    gi_wp2_with (gi_at_builtin; refine wpListIn_append_own _ rfl _ _ 70 rfl wb.heap.size 30 i0 (adV (0, 0)) 2 16 Tryd.underlying70 hi0 hz0 hz1 hz2 rfl (by decide) _ _ _ rfl (hr.alloc _) ⟨X.heap.size, 0, none⟩ 1 1 [.int .i64 a1, .int .i64 a2] rfl rfl (cell_two_new _ _ _ _) (by simp [Value.oneCell']) (by unfold maxLen; omega) (by omega) (by have := hb.size; simp; omega) ?_; intro v' w4 hown' hgrow _; obtain ⟨g', cap', rfl⟩ := ownsRow_succ hown'; obtain ⟨hv1, hv2, hr2, hk2, hb2⟩ := hv.appended (by decide) hr hb.size (by omega) hown' hgrow; have hc1 := hv1.cell; have hf1 := hv1.frozen)
    have hr3 := hr2
    rw [show [Value.int .i64 a1, .int .i64 a2] = adL [(a1, a2)] from rfl, adL_append, ← htk] at hr3
    refine ⟨⟨hk2.size, fun i _ hi => hb2.block i (by have := HTL.out; have := hbw.size; omega)⟩, hk2.from _, ?_, hb.trans hb2⟩
    first | exact ⟨_, hv2, hr3, trivial⟩ | exact ⟨_, hv2, hr3⟩
  case done =>
    rintro D X hD ⟨⟨v, hv, hr, -⟩, hb⟩ hK
    have hN : (sl.map (·.2)).length = N := by rw [List.length_map]; exact HCNT.out
    subst hN
    rw [List.take_length] at hr
    have hr2 := ownsRow_putObj hr (.deferred none) hK rfl
    have hb2 : Below wb.heap.size wb (X.putObj D (.deferred none)) := hb.grown (grownBy_putObj' _ D _) hb.size (fun q e => by injection e with e; have := hbV.size; omega)
    have HB9 := Lib.hid (hbw.trans (hb2.mono hbw.size))
    obtain ⟨A9, c9, rfl, hvs, hcap⟩ := Vs.of_ownN hr2
    have hc := hv.cell
    refine hKr _ _ ?_
    clear hKr
    dsimp only
    go_wp2
    refine ⟨by simp, .inl ⟨_, _, rfl, run_takeDeferred hK, ?_⟩⟩
    refine ⟨_, results_tmp rfl _ _ _, ?_⟩
    unfold AdsTo
    rw [List.length_map]
    exact ⟨A9, c9, rfl, by simpa using hvs, by simpa using hcap, HB9.out⟩
  case stop =>
    rintro D cc m X hD hm h hK
    exact h.elim
end Go.Proofs.YtcmhodimkpkmbaaDoor
