/-
  What the program's index tells: Last, Where, Tomb, At.
-/
import Derived.Test.YtcmhodimkpkmbaaDoorIxGet
namespace Go.Proofs.YtcmhodimkpkmbaaDoor
open Go.ChangeShapes Go.WideShapes Go.ChangeAt Go.RowKit
set_option maxRecDepth 100000

set_option maxHeartbeats 2000000 in
theorem lxLast_any {own : Nat → Prop} {w : World} {cs : List Value} {S : Ix.St} (o : Int) (h : LIx own w cs S) :
    Calls Tryd.prog 24 #[.agg cs.toArray, .int .i64 o] w fun e w' => e = .returned (.int .i64 (lastI (Ix.see S o))) ∧ Below w.heap.size w w' := by
  obtain ⟨v, -, -, co⟩ := lxOf_any o h
  have cl := fun W => last_any (Ix.see S o) v W
  have HRG : Hid ((w.alloc (.cells cs.toArray 35)).rangeAt w.heap.size 0 cs) := Lib.hid (IxBox.range (heap_alloc_new w _))
  have HSZ : Hid ((Tryd.prog.info? 35).map (·.size) = some cs.length) := Lib.hid (by rw [h.len]; exact ix_size)
  have HB : Hid (Below w.heap.size w (w.alloc (.cells cs.toArray 35))) := Lib.hid ((Below.refl _ w).alloc (Nat.le_refl _) _)
  clear h
  go_enter Tryd.func24, Tryd.ntmps24
  go_wp2_with (first
    | (refine wpList_load_mid (by rfl) 35 (.tmp 2) (by rfl) w.heap.size 0 (by rfl) cs _ HRG.out Tryd.underlying35 (by rfl) HSZ.out ?_)
    | (go_at_call 21; (with_reducible refine (co _).mono ?_); rintro e w2 ⟨rfl, hb2⟩; have HB2 := Lib.hid (HB.out.trans (hb2.mono HB.out.size)); clear hb2)
    | (go_at_call 32; (with_reducible refine (cl _).mono ?_); rintro e w3 ⟨rfl, hw3⟩; have HB3 : Hid (Below w.heap.size w w3) := Lib.hid (by rw [hw3]; exact HB2.out.alloc HB2.out.size _); clear hw3))
  go_ret
  exact ⟨rfl, HB3.out⟩
theorem ad_range {w3 : World} {q : Nat} {T : TypeId} {x0 x1 y0 y1 : Value} (h : w3.heap[q]? = some (.cells #[y0, y1] T (0, 0))) :
    ((w3.setCell ⟨q, 0, none⟩ x0).setCell ⟨q, 1, none⟩ x1).rangeAt q 0 [x0, x1] := by
  have h0 := cells_set (C := [y0, y1]) h 0 x0
  have h1 := cells_set (C := [x0, y1]) h0 1 x1
  intro j v hj
  rw [cells_at (C := [x0, x1]) h1, Nat.zero_add]
  exact hj
theorem set2_far {W : World} {q p : Nat} {x0 x1 : Value} (h : p ≠ q) : ((W.setCell ⟨q, 0, none⟩ x0).setCell ⟨q, 1, none⟩ x1).heap[p]? = W.heap[p]? :=
  (Below.heap_setCell _ ⟨q, 1, none⟩ _ _ h).trans (Below.heap_setCell _ ⟨q, 0, none⟩ _ _ h)
theorem ad_size : (Tryd.prog.info? 30).map (·.size) = some 2 := by kernel_rfl
/-- a place and a truth, out of the results' cells -/
theorem res_ad {U : World} {fn : Func} {tm : Array Value} {n m q : Nat} {x0 x1 b : Value} (hf : fn.results = #[.cell n 30, .tmp m]) (h4 : tm.getD n undef = .pointer (some ⟨q, 0, none⟩)) (h5 : tm.getD m undef = b) (hr : U.rangeAt q 0 [x0, x1]) :
    (results fn tm).run Tryd.prog U = .ok (.tuple #[.agg #[x0, x1], b]) U := by
  have h6 : tm[n]?.getD undef = .pointer (some ⟨q, 0, none⟩) := by simpa using h4
  have h7 : tm[m]?.getD undef = b := by simpa using h5
  have hl := run_loadVar_mid (P := Tryd.prog) U q 0 30 [x0, x1] _ hr Tryd.underlying30 (by rfl) ad_size
  simp [results, hf, h6, h7, asAddr, hl]
set_option maxHeartbeats 4000000 in
theorem lxWhere_any {own : Nat → Prop} {w : World} {cs : List Value} {S : Ix.St} (o : Int) (h : LIx own w cs S) (hS : Ix.Ok S) :
    Calls Tryd.prog 22 #[.agg cs.toArray, .int .i64 o] w fun e w' => e = .returned (.tuple #[adV (Ix.see S o).at_, .bool (Ix.see S o).b]) ∧ Below w.heap.size w w' := by
  obtain ⟨v, hmo, -, co⟩ := lxOf_any o h
  obtain ⟨mo, rfl⟩ := hmo.map
  have cb := fun W => bound_any (ok_see hS o) (.map mo) W
  have HRG : Hid (((w.alloc (.cells cs.toArray 35)).alloc (adO (0, 0))).rangeAt w.heap.size 0 cs) := Lib.hid (IxBox.range ((Below.heap_alloc _ _ _ (by simp)).trans (heap_alloc_new w _)))
  have HSZ : Hid ((Tryd.prog.info? 35).map (·.size) = some cs.length) := Lib.hid (by rw [h.len]; exact ix_size)
  have HB : Hid (Below w.heap.size w ((w.alloc (.cells cs.toArray 35)).alloc (adO (0, 0)))) := Lib.hid (((Below.refl _ w).alloc (Nat.le_refl _) _).alloc (by simp) _)
  have HZ : Hid (((w.alloc (.cells cs.toArray 35)).alloc (adO (0, 0))).heap[w.heap.size + 1]? = some (adO (0, 0))) := Lib.hid (by
    have h9 := heap_alloc_new (w.alloc (.cells cs.toArray 35)) (adO (0, 0))
    rwa [World.size_alloc] at h9)
  generalize Ix.see S o = s at *
  obtain ⟨sb, ⟨so, sg, stg, sln, stk⟩, ⟨s1, s2⟩, sl, fl, ⟨t1, t2⟩⟩ := s
  dsimp only at co cb
  clear h hS hmo
  go_enter Tryd.func22, Tryd.ntmps22
  go_wp2_with (first
    | (refine wpList_load_mid (by rfl) 35 (.tmp 2) (by rfl) w.heap.size 0 (by rfl) cs _ HRG.out Tryd.underlying35 (by rfl) HSZ.out ?_)
    | (go_at_call 21; (with_reducible refine (co _).mono ?_); rintro e w2 ⟨rfl, hb2⟩; have HB2 := Lib.hid (HB.out.trans (hb2.mono HB.out.size)); have hz2 := (hb2.block _ (lt_of_at HZ.out)).trans HZ.out; have HZ2 := Lib.hid hz2; have HLT := Lib.hid (lt_of_at hz2); clear hb2 hz2))
  have HP0 : Hid ((fun W : World => W.cell? ⟨w2.heap.size, 0, none⟩ = some (.int .i64 so) ∧ W.cell? ⟨w2.heap.size, 1, none⟩ = some (.int .i64 sg) ∧ W.cell? ⟨w2.heap.size, 2, none⟩ = some (.string stg) ∧ W.cell? ⟨w2.heap.size, 3, none⟩ = some (.int .i64 sln) ∧ W.cell? ⟨w2.heap.size, 4, none⟩ = some (.int .i64 stk) ∧ W.cell? ⟨w2.heap.size, 5, none⟩ = some (.map mo) ∧ W.cell? ⟨w2.heap.size, 6, none⟩ = some (.int .i64 s1) ∧ W.cell? ⟨w2.heap.size, 7, none⟩ = some (.int .i64 s2) ∧ W.cell? ⟨w2.heap.size, 8, none⟩ = some (.int .i64 fl) ∧ W.cell? ⟨w2.heap.size, 9, none⟩ = some (.int .i64 t1) ∧ W.cell? ⟨w2.heap.size, 10, none⟩ = some (.int .i64 t2)) (w2.alloc (spO ⟨sb, ⟨so, sg, stg, sln, stk⟩, (s1, s2), sl, fl, (t1, t2)⟩ (.map mo))).drew) := Lib.hid (cells11 (heap_alloc_new w2 _))
  go_region_held3 (fun W => W.cell? ⟨w2.heap.size, 0, none⟩ = some (.int .i64 so) ∧ W.cell? ⟨w2.heap.size, 1, none⟩ = some (.int .i64 sg) ∧ W.cell? ⟨w2.heap.size, 2, none⟩ = some (.string stg) ∧ W.cell? ⟨w2.heap.size, 3, none⟩ = some (.int .i64 sln) ∧ W.cell? ⟨w2.heap.size, 4, none⟩ = some (.int .i64 stk) ∧ W.cell? ⟨w2.heap.size, 5, none⟩ = some (.map mo) ∧ W.cell? ⟨w2.heap.size, 6, none⟩ = some (.int .i64 s1) ∧ W.cell? ⟨w2.heap.size, 7, none⟩ = some (.int .i64 s2) ∧ W.cell? ⟨w2.heap.size, 8, none⟩ = some (.int .i64 fl) ∧ W.cell? ⟨w2.heap.size, 9, none⟩ = some (.int .i64 t1) ∧ W.cell? ⟨w2.heap.size, 10, none⟩ = some (.int .i64 t2))
    (first | (with_reducible exact HP0.out) | (with_reducible exact HP1.out) | (with_reducible exact HP2.out))
    (first | (go_at_call 35; (with_reducible refine (cb _).mono ?_); rintro e w3 ⟨rfl, hw3⟩; have hq3 := get_beh hw3; have hb3 := hq3.1; have HP1 := Lib.hid (cells11 hq3.2); have hz3 := (hb3.block _ HLT.out).trans HZ2.out; have HZ3 := Lib.hid hz3; obtain ⟨c0, c1⟩ := cells2 hz3; have f0 := frozen0 hz3 0; have f1 := frozen0 hz3 1; have HB3 := Lib.hid (HB2.out.trans (hb3.mono HB2.out.size)); have HP2 : Hid ((fun W : World => W.cell? ⟨w2.heap.size, 0, none⟩ = some (.int .i64 so) ∧ W.cell? ⟨w2.heap.size, 1, none⟩ = some (.int .i64 sg) ∧ W.cell? ⟨w2.heap.size, 2, none⟩ = some (.string stg) ∧ W.cell? ⟨w2.heap.size, 3, none⟩ = some (.int .i64 sln) ∧ W.cell? ⟨w2.heap.size, 4, none⟩ = some (.int .i64 stk) ∧ W.cell? ⟨w2.heap.size, 5, none⟩ = some (.map mo) ∧ W.cell? ⟨w2.heap.size, 6, none⟩ = some (.int .i64 s1) ∧ W.cell? ⟨w2.heap.size, 7, none⟩ = some (.int .i64 s2) ∧ W.cell? ⟨w2.heap.size, 8, none⟩ = some (.int .i64 fl) ∧ W.cell? ⟨w2.heap.size, 9, none⟩ = some (.int .i64 t1) ∧ W.cell? ⟨w2.heap.size, 10, none⟩ = some (.int .i64 t2)) ((w3.setCell ⟨w.heap.size + 1, 0, none⟩ (.int .i64 s1)).setCell ⟨w.heap.size + 1, 1, none⟩ (.int .i64 s2))) := Lib.hid (cells11 ((set2_far (by have := HLT.out; omega)).trans hq3.2)); clear hw3 hq3 hb3 hz3) | fail)
  have HR9 := Lib.hid (ad_range (x0 := .int .i64 s1) (x1 := .int .i64 s2) HZ3.out)
  have HB9 := Lib.hid ((HB3.out.setCell (a := w) (p := ⟨w.heap.size + 1, 0, none⟩) (by simp) (.int .i64 s1)).setCell (p := ⟨w.heap.size + 1, 1, none⟩) (by simp) (.int .i64 s2))
  go_wp2
  exact bodyPost_ret (res_ad rfl (by rfl) (by rfl) HR9.out) rfl ⟨rfl, HB9.out⟩
set_option maxHeartbeats 4000000 in
theorem lxTomb_any {own : Nat → Prop} {w : World} {cs : List Value} {S : Ix.St} (o : Int) (h : LIx own w cs S) :
    Calls Tryd.prog 23 #[.agg cs.toArray, .int .i64 o] w fun e w' => e = .returned (.tuple #[adV (Ix.see S o).tomb, .bool (decide (0 < (Ix.see S o).fl))]) ∧ Below w.heap.size w w' := by
  obtain ⟨v, hmo, -, co⟩ := lxOf_any o h
  obtain ⟨mo, rfl⟩ := hmo.map
  have HRG : Hid (((w.alloc (.cells cs.toArray 35)).alloc (adO (0, 0))).rangeAt w.heap.size 0 cs) := Lib.hid (IxBox.range ((Below.heap_alloc _ _ _ (by simp)).trans (heap_alloc_new w _)))
  have HSZ : Hid ((Tryd.prog.info? 35).map (·.size) = some cs.length) := Lib.hid (by rw [h.len]; exact ix_size)
  have HB : Hid (Below w.heap.size w ((w.alloc (.cells cs.toArray 35)).alloc (adO (0, 0)))) := Lib.hid (((Below.refl _ w).alloc (Nat.le_refl _) _).alloc (by simp) _)
  have HZ : Hid (((w.alloc (.cells cs.toArray 35)).alloc (adO (0, 0))).heap[w.heap.size + 1]? = some (adO (0, 0))) := Lib.hid (by
    have h9 := heap_alloc_new (w.alloc (.cells cs.toArray 35)) (adO (0, 0))
    rwa [World.size_alloc] at h9)
  generalize Ix.see S o = s at *
  obtain ⟨sb, ⟨so, sg, stg, sln, stk⟩, ⟨s1, s2⟩, sl, fl, ⟨t1, t2⟩⟩ := s
  clear h hmo
  go_enter Tryd.func23, Tryd.ntmps23
  go_wp2_with (first
    | (refine wpList_load_mid (by rfl) 35 (.tmp 2) (by rfl) w.heap.size 0 (by rfl) cs _ HRG.out Tryd.underlying35 (by rfl) HSZ.out ?_)
    | (go_at_call 21; (with_reducible refine (co _).mono ?_); rintro e w2 ⟨rfl, hb2⟩; have HB2 := Lib.hid (HB.out.trans (hb2.mono HB.out.size)); have hz2 := (hb2.block _ (lt_of_at HZ.out)).trans HZ.out; have HZ2 := Lib.hid hz2; have HLT := Lib.hid (lt_of_at hz2); clear hb2 hz2))
  obtain ⟨w3, hw3⟩ : ∃ w3, w3 = w2.alloc (.cells #[.int .i64 so, .int .i64 sg, .string stg, .int .i64 sln, .int .i64 stk, .map mo, .int .i64 s1, .int .i64 s2, .int .i64 fl, .int .i64 t1, .int .i64 t2] 32) := ⟨_, rfl⟩
  have hz3 : w3.heap[w.heap.size + 1]? = some (adO (0, 0)) := by rw [hw3]; exact (Below.heap_alloc _ _ _ HLT.out).trans HZ2.out
  have HZ3 := Lib.hid hz3
  obtain ⟨c0, c1⟩ := cells2 hz3
  have f0 := frozen0 hz3 0
  have f1 := frozen0 hz3 1
  have HB3 : Hid (Below w.heap.size w w3) := Lib.hid (by rw [hw3]; exact HB2.out.alloc HB2.out.size _)
  obtain ⟨d0, d1, d2, d3, d4, d5, d6, d7, d8, d9, d10⟩ := cells11 (show w3.heap[w2.heap.size]? = _ by rw [hw3]; exact heap_alloc_new w2 _)
  rw [← hw3]
  clear hw3 hz3
  go_region
  have HR9 := Lib.hid (ad_range (x0 := .int .i64 t1) (x1 := .int .i64 t2) HZ3.out)
  have HB9 := Lib.hid ((HB3.out.setCell (a := w) (p := ⟨w.heap.size + 1, 0, none⟩) (by simp) (.int .i64 t1)).setCell (p := ⟨w.heap.size + 1, 1, none⟩) (by simp) (.int .i64 t2)).drew
  go_wp2
  exact bodyPost_ret (res_ad rfl (by rfl) (by rfl) HR9.out) rfl ⟨rfl, HB9.out⟩
theorem field_slotA (s : Ix.Sl) (mo : Option Nat) (W : World) : (Instr.field 32 (spV s (.map mo)) 0).run Tryd.prog W = .ok (.agg #[.int .i64 s.bind.obj, .int .i64 s.bind.gen, .string s.bind.tag, .int .i64 s.bind.len, .int .i64 s.bind.tick, .map mo]) W := by kernel_rfl
theorem field_mapA (x0 x1 x2 x3 x4 : Value) (mo : Option Nat) (W : World) : (Instr.field 28 (.agg #[x0, x1, x2, x3, x4, .map mo]) 1).run Tryd.prog W = .ok (.map mo) W := by kernel_rfl
set_option maxHeartbeats 4000000 in
theorem lxAt_any {own : Nat → Prop} {w : World} {cs : List Value} {S : Ix.St} (o i : Int) (hi : W64 i) (h : LIx own w cs S) :
    Calls Tryd.prog 7 #[.agg cs.toArray, .int .i64 o, .int .i64 i] w fun e w' => e = .returned (.tuple #[adV ((Ix.look (Ix.see S o).sl i).getD (0, 0)), .bool (Ix.look (Ix.see S o).sl i).isSome]) ∧ Below w.heap.size w w' := by
  obtain ⟨v, hmo, -, co⟩ := lxOf_any o h
  obtain ⟨mo, rfl⟩ := hmo.map
  have HRG : Hid (((w.alloc (.cells cs.toArray 35)).alloc (adO (0, 0))).rangeAt w.heap.size 0 cs) := Lib.hid (IxBox.range ((Below.heap_alloc _ _ _ (by simp)).trans (heap_alloc_new w _)))
  have HSZ : Hid ((Tryd.prog.info? 35).map (·.size) = some cs.length) := Lib.hid (by rw [h.len]; exact ix_size)
  have HB : Hid (Below w.heap.size w ((w.alloc (.cells cs.toArray 35)).alloc (adO (0, 0)))) := Lib.hid (((Below.refl _ w).alloc (Nat.le_refl _) _).alloc (by simp) _)
  have HZ : Hid (((w.alloc (.cells cs.toArray 35)).alloc (adO (0, 0))).heap[w.heap.size + 1]? = some (adO (0, 0))) := Lib.hid (by
    have h9 := heap_alloc_new (w.alloc (.cells cs.toArray 35)) (adO (0, 0))
    rwa [World.size_alloc] at h9)
  have HLK : Hid (∀ W, Below w.heap.size w W → (Instr.lookup 26 (.map mo) (.int .i64 i) true).run Tryd.prog W = _) := Lib.hid fun W hb => look_run (hmo.below hb) hi true
  have hf1 := field_slotA (Ix.see S o) mo
  have hf2 := field_mapA
  obtain ⟨⟨x1, x2⟩, hx⟩ : ∃ x, x = (Ix.look (Ix.see S o).sl i).getD (0, 0) := ⟨_, rfl⟩
  obtain ⟨q, hq⟩ : ∃ q, q = (Ix.look (Ix.see S o).sl i).isSome := ⟨_, rfl⟩
  rw [← hx, ← hq] at HLK ⊢
  generalize Ix.see S o = s at *
  clear h hmo hx hq hi
  go_enter Tryd.func7, Tryd.ntmps7
  go_wp2_with (first
    | (refine wpList_load_mid (by rfl) 35 (.tmp 3) (by rfl) w.heap.size 0 (by rfl) cs _ HRG.out Tryd.underlying35 (by rfl) HSZ.out ?_)
    | (go_at_call 21; (with_reducible refine (co _).mono ?_); rintro e w2 ⟨rfl, hb2⟩; have hbb := HB.out.trans (hb2.mono HB.out.size); have HB2 := Lib.hid hbb; have hlk := HLK.out w2 hbb; simp only [if_true] at hlk; have hz2 := (hb2.block _ (lt_of_at HZ.out)).trans HZ.out; have hlt := lt_of_at hz2; have hz3 : (w2.alloc (adO (x1, x2))).heap[w.heap.size + 1]? = some (adO (0, 0)) := ((Below.heap_alloc _ _ _ hlt).trans hz2); have HZ3 := Lib.hid hz3; obtain ⟨c0, c1⟩ := cells2 hz3; have f0 := frozen0 hz3 0; have f1 := frozen0 hz3 1; have HB3 := Lib.hid (hbb.alloc hbb.size (adO (x1, x2))); clear hb2 hbb hz2 hz3 hlt))
  have HR9 := Lib.hid (ad_range (x0 := .int .i64 x1) (x1 := .int .i64 x2) HZ3.out)
  have HB9 := Lib.hid ((HB3.out.setCell (a := w) (p := ⟨w.heap.size + 1, 0, none⟩) (by simp) (.int .i64 x1)).setCell (p := ⟨w.heap.size + 1, 1, none⟩) (by simp) (.int .i64 x2))
  exact bodyPost_ret (res_ad rfl (by rfl) (by rfl) HR9.out) rfl ⟨rfl, HB9.out⟩
end Go.Proofs.YtcmhodimkpkmbaaDoor
