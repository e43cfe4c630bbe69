/-
  What the program's index tells: Bind, Drop, Get, Floor.
-/
import Derived.Test.YtcmhodimkpkmbaaDoorIxProg
import Derived.Test.YtcmhodimkpkmbaaDoorIxDeeds
import Derived.Deep.RegionWith
namespace Go.Proofs.YtcmhodimkpkmbaaDoor
open Go.ChangeShapes Go.WideShapes Go.ChangeAt Go.RowKit
set_option maxRecDepth 100000

set_option maxHeartbeats 4000000 in
theorem lxBind_any {own : Nat → Prop} {w : World} {cs : List Value} {S : Ix.St} (b : Ix.Bd) (h : LIx own w cs S) (hS : Ix.Ok S) :
    Calls Tryd.prog 14 #[.agg cs.toArray, bdV b] w (IxAns own (Ix.bnd S b (0, 0)) w) := by
  have hz := ixP_zero
  have hzl := ixP_length Ix.st0 fun _ => .map none
  generalize (ixP Ix.st0 fun _ => .map none) = z0 at *
  obtain ⟨w1, hw1⟩ : ∃ w1, w1 = ((w.alloc (.cells cs.toArray 35)).alloc (bdO b)).alloc (.cells z0.toArray 35) := ⟨_, rfl⟩
  have hb1 : Below w.heap.size w w1 := by rw [hw1]; exact (((Below.refl _ w).alloc (Nat.le_refl _) _).alloc (by simp) _).alloc (by simp; omega) _
  have hx1 : IxBox w1 w.heap.size cs := by
    rw [hw1]
    exact (Below.heap_alloc _ _ _ (by simp; omega)).trans ((Below.heap_alloc _ _ _ (by simp)).trans (heap_alloc_new w _))
  have hr1 : IxBox w1 (w.heap.size + 2) z0 := by
    have h9 := heap_alloc_new ((w.alloc (.cells cs.toArray 35)).alloc (bdO b)) (.cells z0.toArray 35)
    rw [show ((w.alloc (.cells cs.toArray 35)).alloc (bdO b)).heap.size = w.heap.size + 2 by simp] at h9
    rw [hw1]
    exact h9
  have hR1 := h.below hb1
  have cw := lxBound_any b (0, 0) hR1 hS
  have HQ : Hid (∀ own2 cs2 w2, LIx own2 w2 cs2 (Ix.bnd S b (0, 0)) → (∀ i, own2 i → own i ∨ w1.heap.size ≤ i) → Below w1.heap.size w1 w2 → _) := Lib.hid fun own2 cs2 w2 a1 a2 a3 => IxAns.put (own := own) (fun i hi => h.lt hi) hb1 (by omega) hr1 hzl a1 a2 a3
  have HRG := Lib.hid hx1.range
  have HSZ : Hid ((Tryd.prog.info? 35).map (·.size) = some cs.length) := Lib.hid (by rw [h.len]; exact ix_size)
  obtain ⟨S2, hS2⟩ : ∃ S2, S2 = Ix.bnd S b (0, 0) := ⟨_, rfl⟩
  rw [← hS2] at cw HQ ⊢
  clear hb1 hx1 hr1 hR1 h hS hzl hS2
  subst hw1
  obtain ⟨obj, gen, tag, len, tick⟩ := b
  go_enter Tryd.func14, Tryd.ntmps14
  go_wp2_with (first
    | (refine wpList_load_mid (by rfl) 35 (.tmp 2) (by rfl) w.heap.size 0 (by rfl) cs _ HRG.out Tryd.underlying35 (by rfl) HSZ.out ?_)
    | (go_at_call 9; (with_reducible refine cw.mono ?_); rintro e w2 ⟨cs2, own2, rfl, a1, a2, a3⟩; obtain ⟨h1, h2, h3, h4, h5⟩ := HQ.out own2 cs2 w2 a1 a2 a3; have HT := Lib.hid h1; have HSZ2 := Lib.hid h2; have HO := Lib.hid h3; have HRES := Lib.hid h4; have HEND := Lib.hid h5; have HL := Lib.hid a1.len; clear a1 a2 a3 h1 h2 h3 h4 h5)
    | (refine wpList_store_mid (by rfl) 35 (.tmp 4) (.tmp 8) (by rfl) (w.heap.size + 2) 0 cs2.toArray (by rfl) (by rfl) HT.out HSZ2.out HO.out ?_; rw [List.toList_toArray]))
  exact bodyPost_ret (res_ix rfl HL.out (by rfl) HRES.out) rfl HEND.out
set_option maxHeartbeats 4000000 in
theorem lxDrop_any {own : Nat → Prop} {w : World} {cs : List Value} {S : Ix.St} (o gen : Int) (h : LIx own w cs S) (hS : Ix.Ok S) :
    Calls Tryd.prog 16 #[.agg cs.toArray, .int .i64 o, .int .i64 gen] w (IxAns own (Ix.fgt S o gen (0, 0)) w) := by
  have hz := ixP_zero
  have hzl := ixP_length Ix.st0 fun _ => .map none
  generalize (ixP Ix.st0 fun _ => .map none) = z0 at *
  obtain ⟨w1, hw1⟩ : ∃ w1, w1 = (w.alloc (.cells cs.toArray 35)).alloc (.cells z0.toArray 35) := ⟨_, rfl⟩
  have hb1 : Below w.heap.size w w1 := by rw [hw1]; exact ((Below.refl _ w).alloc (Nat.le_refl _) _).alloc (by simp) _
  have hx1 : IxBox w1 w.heap.size cs := by
    rw [hw1]
    exact (Below.heap_alloc _ _ _ (by simp)).trans (heap_alloc_new w _)
  have hr1 : IxBox w1 (w.heap.size + 1) z0 := by
    have h9 := heap_alloc_new (w.alloc (.cells cs.toArray 35)) (.cells z0.toArray 35)
    rw [show (w.alloc (.cells cs.toArray 35)).heap.size = w.heap.size + 1 by simp] at h9
    rw [hw1]
    exact h9
  have hR1 := h.below hb1
  have cw := lxForget_any o gen (0, 0) hR1 hS
  have HQ : Hid (∀ own2 cs2 w2, LIx own2 w2 cs2 (Ix.fgt S o gen (0, 0)) → (∀ i, own2 i → own i ∨ w1.heap.size ≤ i) → Below w1.heap.size w1 w2 → _) := Lib.hid fun own2 cs2 w2 a1 a2 a3 => IxAns.put (own := own) (fun i hi => h.lt hi) hb1 (by omega) hr1 hzl a1 a2 a3
  have HRG := Lib.hid hx1.range
  have HSZ : Hid ((Tryd.prog.info? 35).map (·.size) = some cs.length) := Lib.hid (by rw [h.len]; exact ix_size)
  obtain ⟨S2, hS2⟩ : ∃ S2, S2 = Ix.fgt S o gen (0, 0) := ⟨_, rfl⟩
  rw [← hS2] at cw HQ ⊢
  clear hb1 hx1 hr1 hR1 h hS hzl hS2
  subst hw1
  go_enter Tryd.func16, Tryd.ntmps16
  go_wp2_with (first
    | (refine wpList_load_mid (by rfl) 35 (.tmp 3) (by rfl) w.heap.size 0 (by rfl) cs _ HRG.out Tryd.underlying35 (by rfl) HSZ.out ?_)
    | (go_at_call 11; (with_reducible refine cw.mono ?_); rintro e w2 ⟨cs2, own2, rfl, a1, a2, a3⟩; obtain ⟨h1, h2, h3, h4, h5⟩ := HQ.out own2 cs2 w2 a1 a2 a3; have HT := Lib.hid h1; have HSZ2 := Lib.hid h2; have HO := Lib.hid h3; have HRES := Lib.hid h4; have HEND := Lib.hid h5; have HL := Lib.hid a1.len; clear a1 a2 a3 h1 h2 h3 h4 h5)
    | (refine wpList_store_mid (by rfl) 35 (.tmp 6) (.tmp 11) (by rfl) (w.heap.size + 1) 0 cs2.toArray (by rfl) (by rfl) HT.out HSZ2.out HO.out ?_; rw [List.toList_toArray]))
  exact bodyPost_ret (res_ix rfl HL.out (by rfl) HRES.out) rfl HEND.out
/-- of, of any object -/
theorem lxOf_any {own : Nat → Prop} {w : World} {cs : List Value} {S : Ix.St} (o : Int) (h : LIx own w cs S) :
    ∃ v, MapOf w v (Ix.see S o).sl ∧ (∀ i, v = .map (some i) → own i) ∧ ∀ W, Calls Tryd.prog 21 #[.agg cs.toArray, .int .i64 o] W fun e w' => e = .returned (spV (Ix.see S o) v) ∧ Below W.heap.size W w' := by
  obtain ⟨M, rfl, h1, h2⟩ := h
  unfold Ix.see
  cases hm : Ix.may o
  · rw [if_neg (by simp)]
    exact ⟨.map none, .inl ⟨rfl, rfl⟩, fun i e => (nomatch e), fun W => of_no _ o hm W⟩
  · rw [if_pos rfl]
    have ho : 0 ≤ o ∧ o ≤ 15 := by unfold Ix.may at hm; exact of_decide_eq_true hm
    obtain ⟨k, rfl⟩ : ∃ k : Nat, o = (k : Int) := ⟨o.toNat, by omega⟩
    rw [show ((k : Int)).toNat = k by omega]
    exact ⟨M k, h1 k (by omega), fun i e => (h2 i).2 ⟨k, by omega, e⟩, fun W => of_yes S M (fun j hj => (h1 j hj).one) k (by omega) W⟩
theorem ok_see {S : Ix.St} (h : Ix.Ok S) (o : Int) : Ix.Ok1 (Ix.see S o) := by
  unfold Ix.see
  split
  · exact h _
  · exact Ix.ok_sl0
theorem field_floor (s : Ix.Sl) (v : Value) (W : World) : (Instr.field 32 (spV s v) 2).run Tryd.prog W = .ok (.int .i64 s.fl) W := by kernel_rfl
set_option maxHeartbeats 2000000 in
theorem lxFloor_any {own : Nat → Prop} {w : World} {cs : List Value} {S : Ix.St} (o : Int) (h : LIx own w cs S) :
    Calls Tryd.prog 17 #[.agg cs.toArray, .int .i64 o] w fun e w' => e = .returned (.int .i64 (Ix.see S o).fl) ∧ Below w.heap.size w w' := by
  obtain ⟨v, -, -, co⟩ := lxOf_any o h
  have HRG : Hid ((w.alloc (.cells cs.toArray 35)).rangeAt w.heap.size 0 cs) := Lib.hid (IxBox.range (heap_alloc_new w _))
  have HSZ : Hid ((Tryd.prog.info? 35).map (·.size) = some cs.length) := Lib.hid (by rw [h.len]; exact ix_size)
  have HB : Hid (Below w.heap.size w (w.alloc (.cells cs.toArray 35))) := Lib.hid ((Below.refl _ w).alloc (Nat.le_refl _) _)
  have hf := field_floor (Ix.see S o) v
  clear h
  go_enter Tryd.func17, Tryd.ntmps17
  go_wp2_with (first
    | (refine wpList_load_mid (by rfl) 35 (.tmp 2) (by rfl) w.heap.size 0 (by rfl) cs _ HRG.out Tryd.underlying35 (by rfl) HSZ.out ?_)
    | (go_at_call 21; (with_reducible refine (co _).mono ?_); rintro e w2 ⟨rfl, hb2⟩; have HB2 := Lib.hid (HB.out.trans (hb2.mono HB.out.size)); clear hb2))
  go_ret
  exact ⟨rfl, HB2.out⟩
end Go.Proofs.YtcmhodimkpkmbaaDoor
