/-
  What the program's index tells: Get.
-/
import Derived.Test.YtcmhodimkpkmbaaDoorIxTell
namespace Go.Proofs.YtcmhodimkpkmbaaDoor
open Go.ChangeShapes Go.WideShapes Go.ChangeAt Go.RowKit
set_option maxRecDepth 100000

theorem MapOf.map {W : World} {v : Value} {l : List Ix.Sc} (h : MapOf W v l) : ∃ m, v = .map m := by
  rcases h with ⟨rfl, _⟩ | ⟨mb, rfl, _⟩
  · exact ⟨_, rfl⟩
  · exact ⟨_, rfl⟩
theorem get_beh {w2 w3 : World} {o : Obj} {o2 : Obj} (h : w3 = (w2.alloc o).drew.alloc o2) : Below w2.heap.size w2 w3 ∧ w3.heap[w2.heap.size]? = some o := by
  rw [h]
  exact ⟨(((Below.refl _ w2).alloc (Nat.le_refl _) _).drew).alloc (by simp) _, (Below.heap_alloc _ _ _ (by simp)).trans (heap_alloc_new w2 _)⟩
theorem get_range {w3 : World} {q : Nat} {T : TypeId} {x0 x1 x2 x3 x4 y0 y1 y2 y3 y4 : Value} (h : w3.heap[q]? = some (.cells #[y0, y1, y2, y3, y4] T (0, 0))) :
    (((((w3.setCell ⟨q, 0, none⟩ x0).setCell ⟨q, 1, none⟩ x1).setCell ⟨q, 2, none⟩ x2).setCell ⟨q, 3, none⟩ x3).setCell ⟨q, 4, none⟩ x4).rangeAt q 0 [x0, x1, x2, x3, x4] := by
  have h0 := cells_set (C := [y0, y1, y2, y3, y4]) h 0 x0
  have h1 := cells_set (C := [x0, y1, y2, y3, y4]) h0 1 x1
  have h2 := cells_set (C := [x0, x1, y2, y3, y4]) h1 2 x2
  have h3 := cells_set (C := [x0, x1, x2, y3, y4]) h2 3 x3
  have h4 := cells_set (C := [x0, x1, x2, x3, y4]) h3 4 x4
  intro j v hj
  rw [cells_at (C := [x0, x1, x2, x3, x4]) h4, Nat.zero_add]
  exact hj
theorem set5_far {W : World} {q p : Nat} {x0 x1 x2 x3 x4 : Value} (h : p ≠ q) : (((((W.setCell ⟨q, 0, none⟩ x0).setCell ⟨q, 1, none⟩ x1).setCell ⟨q, 2, none⟩ x2).setCell ⟨q, 3, none⟩ x3).setCell ⟨q, 4, none⟩ x4).heap[p]? = W.heap[p]? :=
  (Below.heap_setCell _ ⟨q, 4, none⟩ _ _ h).trans ((Below.heap_setCell _ ⟨q, 3, none⟩ _ _ h).trans ((Below.heap_setCell _ ⟨q, 2, none⟩ _ _ h).trans ((Below.heap_setCell _ ⟨q, 1, none⟩ _ _ h).trans (Below.heap_setCell _ ⟨q, 0, none⟩ _ _ h))))
theorem bind_size : (Tryd.prog.info? 25).map (·.size) = some 5 := by kernel_rfl
theorem res_get {U : World} {tm : Array Value} {q : Nat} {ds : List Value} {b : Value} (hd : ds.length = 5) (h4 : tm.getD 4 undef = .pointer (some ⟨q, 0, none⟩)) (h5 : tm.getD 5 undef = b) (hr : U.rangeAt q 0 ds) :
    (results Tryd.f15 tm).run Tryd.prog U = .ok (.tuple #[.agg ds.toArray, b]) U := by
  have h6 : tm[4]?.getD undef = .pointer (some ⟨q, 0, none⟩) := by simpa using h4
  have h7 : tm[5]?.getD undef = b := by simpa using h5
  have hl := run_loadVar_mid (P := Tryd.prog) U q 0 25 ds _ hr Tryd.underlying25 (by rfl) (by rw [hd]; exact bind_size)
  simp [results, Tryd.results15, h6, h7, asAddr, hl]
set_option maxHeartbeats 4000000 in
theorem lxGet_any {own : Nat → Prop} {w : World} {cs : List Value} {S : Ix.St} (o : Int) (h : LIx own w cs S) (hS : Ix.Ok S) :
    Calls Tryd.prog 15 #[.agg cs.toArray, .int .i64 o] w fun e w' => e = .returned (.tuple #[bdV (Ix.see S o).bind, .bool (Ix.see S o).b]) ∧ Below w.heap.size w w' := by
  obtain ⟨v, hmo, -, co⟩ := lxOf_any o h
  obtain ⟨mo, rfl⟩ := hmo.map
  have cb := fun W => bound_any (ok_see hS o) (.map mo) W
  have HRG : Hid (((w.alloc (.cells cs.toArray 35)).alloc (bdO Ix.bd0)).rangeAt w.heap.size 0 cs) := Lib.hid (IxBox.range ((Below.heap_alloc _ _ _ (by simp)).trans (heap_alloc_new w _)))
  have HSZ : Hid ((Tryd.prog.info? 35).map (·.size) = some cs.length) := Lib.hid (by rw [h.len]; exact ix_size)
  have HB : Hid (Below w.heap.size w ((w.alloc (.cells cs.toArray 35)).alloc (bdO Ix.bd0))) := Lib.hid (((Below.refl _ w).alloc (Nat.le_refl _) _).alloc (by simp) _)
  have HZ : Hid (((w.alloc (.cells cs.toArray 35)).alloc (bdO Ix.bd0)).heap[w.heap.size + 1]? = some (bdO Ix.bd0)) := Lib.hid (by
    have h9 := heap_alloc_new (w.alloc (.cells cs.toArray 35)) (bdO Ix.bd0)
    rwa [World.size_alloc] at h9)
  generalize Ix.see S o = s at *
  obtain ⟨sb, ⟨so, sg, stg, sln, stk⟩, ⟨s1, s2⟩, sl, fl, ⟨t1, t2⟩⟩ := s
  dsimp only at co cb
  clear h hS hmo
  go_enter Tryd.func15, Tryd.ntmps15
  go_wp2_with (first
    | (refine wpList_load_mid (by rfl) 35 (.tmp 2) (by rfl) w.heap.size 0 (by rfl) cs _ HRG.out Tryd.underlying35 (by rfl) HSZ.out ?_)
    | (go_at_call 21; (with_reducible refine (co _).mono ?_); rintro e w2 ⟨rfl, hb2⟩; have HB2 := Lib.hid (HB.out.trans (hb2.mono HB.out.size)); have hz2 := (hb2.block _ (lt_of_at HZ.out)).trans HZ.out; have HZ2 := Lib.hid hz2; obtain ⟨c0, c1, c2, c3, c4⟩ := cells5 hz2; have f0 := frozen0 hz2 0; have f1 := frozen0 hz2 1; have f2 := frozen0 hz2 2; have f3 := frozen0 hz2 3; have f4 := frozen0 hz2 4; have hlt := lt_of_at hz2; clear hb2 hz2))
  have HLT := Lib.hid hlt
  clear c0 c1 c2 c3 c4 f0 f1 f2 f3 f4 hlt
  have HP0 : Hid ((fun W : World => W.cell? ⟨w2.heap.size, 0, none⟩ = some (.int .i64 so) ∧ W.cell? ⟨w2.heap.size, 1, none⟩ = some (.int .i64 sg) ∧ W.cell? ⟨w2.heap.size, 2, none⟩ = some (.string stg) ∧ W.cell? ⟨w2.heap.size, 3, none⟩ = some (.int .i64 sln) ∧ W.cell? ⟨w2.heap.size, 4, none⟩ = some (.int .i64 stk) ∧ W.cell? ⟨w2.heap.size, 5, none⟩ = some (.map mo) ∧ W.cell? ⟨w2.heap.size, 6, none⟩ = some (.int .i64 s1) ∧ W.cell? ⟨w2.heap.size, 7, none⟩ = some (.int .i64 s2) ∧ W.cell? ⟨w2.heap.size, 8, none⟩ = some (.int .i64 fl) ∧ W.cell? ⟨w2.heap.size, 9, none⟩ = some (.int .i64 t1) ∧ W.cell? ⟨w2.heap.size, 10, none⟩ = some (.int .i64 t2)) (w2.alloc (spO ⟨sb, ⟨so, sg, stg, sln, stk⟩, (s1, s2), sl, fl, (t1, t2)⟩ (.map mo))).drew) := Lib.hid (cells11 (heap_alloc_new w2 _))
  go_region_held3 (fun W => W.cell? ⟨w2.heap.size, 0, none⟩ = some (.int .i64 so) ∧ W.cell? ⟨w2.heap.size, 1, none⟩ = some (.int .i64 sg) ∧ W.cell? ⟨w2.heap.size, 2, none⟩ = some (.string stg) ∧ W.cell? ⟨w2.heap.size, 3, none⟩ = some (.int .i64 sln) ∧ W.cell? ⟨w2.heap.size, 4, none⟩ = some (.int .i64 stk) ∧ W.cell? ⟨w2.heap.size, 5, none⟩ = some (.map mo) ∧ W.cell? ⟨w2.heap.size, 6, none⟩ = some (.int .i64 s1) ∧ W.cell? ⟨w2.heap.size, 7, none⟩ = some (.int .i64 s2) ∧ W.cell? ⟨w2.heap.size, 8, none⟩ = some (.int .i64 fl) ∧ W.cell? ⟨w2.heap.size, 9, none⟩ = some (.int .i64 t1) ∧ W.cell? ⟨w2.heap.size, 10, none⟩ = some (.int .i64 t2))
    (first | (with_reducible exact HP0.out) | (with_reducible exact HP1.out) | (with_reducible exact HP2.out))
    (first | (go_at_call 35; (with_reducible refine (cb _).mono ?_); rintro e w3 ⟨rfl, hw3⟩; have hq3 := get_beh hw3; have hb3 := hq3.1; have HP1 := Lib.hid (cells11 hq3.2); have hz3 := (hb3.block _ HLT.out).trans HZ2.out; have HZ3 := Lib.hid hz3; obtain ⟨c0, c1, c2, c3, c4⟩ := cells5 hz3; have f0 := frozen0 hz3 0; have f1 := frozen0 hz3 1; have f2 := frozen0 hz3 2; have f3 := frozen0 hz3 3; have f4 := frozen0 hz3 4; have HB3 := Lib.hid (HB2.out.trans (hb3.mono HB2.out.size)); have HP2 : Hid ((fun W : World => W.cell? ⟨w2.heap.size, 0, none⟩ = some (.int .i64 so) ∧ W.cell? ⟨w2.heap.size, 1, none⟩ = some (.int .i64 sg) ∧ W.cell? ⟨w2.heap.size, 2, none⟩ = some (.string stg) ∧ W.cell? ⟨w2.heap.size, 3, none⟩ = some (.int .i64 sln) ∧ W.cell? ⟨w2.heap.size, 4, none⟩ = some (.int .i64 stk) ∧ W.cell? ⟨w2.heap.size, 5, none⟩ = some (.map mo) ∧ W.cell? ⟨w2.heap.size, 6, none⟩ = some (.int .i64 s1) ∧ W.cell? ⟨w2.heap.size, 7, none⟩ = some (.int .i64 s2) ∧ W.cell? ⟨w2.heap.size, 8, none⟩ = some (.int .i64 fl) ∧ W.cell? ⟨w2.heap.size, 9, none⟩ = some (.int .i64 t1) ∧ W.cell? ⟨w2.heap.size, 10, none⟩ = some (.int .i64 t2)) (((((w3.setCell ⟨w.heap.size + 1, 0, none⟩ (.int .i64 so)).setCell ⟨w.heap.size + 1, 1, none⟩ (.int .i64 sg)).setCell ⟨w.heap.size + 1, 2, none⟩ (.string stg)).setCell ⟨w.heap.size + 1, 3, none⟩ (.int .i64 sln)).setCell ⟨w.heap.size + 1, 4, none⟩ (.int .i64 stk))) := Lib.hid (cells11 ((set5_far (by have := HLT.out; omega)).trans hq3.2)); clear hw3 hq3 hb3 hz3) | fail)
  have HR9 := Lib.hid (get_range (x0 := .int .i64 so) (x1 := .int .i64 sg) (x2 := .string stg) (x3 := .int .i64 sln) (x4 := .int .i64 stk) HZ3.out)
  have HB9 := Lib.hid (((((HB3.out.setCell (a := w) (p := ⟨w.heap.size + 1, 0, none⟩) (by simp) (.int .i64 so)).setCell (p := ⟨w.heap.size + 1, 1, none⟩) (by simp) (.int .i64 sg)).setCell (p := ⟨w.heap.size + 1, 2, none⟩) (by simp) (.string stg)).setCell (p := ⟨w.heap.size + 1, 3, none⟩) (by simp) (.int .i64 sln)).setCell (p := ⟨w.heap.size + 1, 4, none⟩) (by simp) (.int .i64 stk))
  go_wp2
  exact bodyPost_ret (res_get (ds := [.int .i64 so, .int .i64 sg, .string stg, .int .i64 sln, .int .i64 stk]) rfl (by rfl) (by rfl) HR9.out) rfl ⟨rfl, HB9.out⟩
theorem ixTells : IxTells LIx where
  bind := fun b h hS => lxBind_any b h hS
  drop := fun o g h hS => lxDrop_any o g h hS
  get := fun o h hS => lxGet_any o h hS
  floor := fun o h _ => lxFloor_any o h
end Go.Proofs.YtcmhodimkpkmbaaDoor
