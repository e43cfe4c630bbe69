/-
  The program's index: a relation of its cells to what it tells; New, Bound, Piece, Forget (written by gen_ixprog.py).
-/
import Derived.Test.YtcmhodimkpkmbaaDoorIxWith
namespace Go.Proofs.YtcmhodimkpkmbaaDoor
open Go.ChangeShapes Go.WideShapes Go.ChangeAt Go.RowKit
set_option maxRecDepth 100000

/-- the program's index: its cells tell S, by blocks own alone -/
def LIx (own : Nat → Prop) (W : World) (cs : List Value) (S : Ix.St) : Prop :=
  ∃ M, cs = ixP S M ∧ (∀ k, k < 16 → MapOf W (M k) (S k).sl) ∧ ∀ i, own i ↔ ∃ k, k < 16 ∧ M k = .map (some i)
section
variable {own : Nat → Prop} {W W' : World} {cs : List Value} {S : Ix.St}
theorem LIx.len (h : LIx own W cs S) : cs.length = 176 := by
  obtain ⟨M, rfl, _⟩ := h
  exact ixP_length S M
theorem LIx.one (h : LIx own W cs S) : ∀ v ∈ cs, v.oneCell' = true := by
  obtain ⟨M, rfl, h1, _⟩ := h
  exact ixP_one fun k hk => (h1 k hk).one
theorem LIx.lt {i : Nat} (h : LIx own W cs S) (hi : own i) : i < W.heap.size := by
  obtain ⟨M, rfl, h1, h2⟩ := h
  obtain ⟨k, hk, e⟩ := (h2 i).1 hi
  rcases h1 k hk with ⟨e2, _⟩ | ⟨mb, e2, h3⟩
  · rw [e] at e2; cases e2
  · rw [e] at e2
    injection e2 with e2
    injection e2 with e2
    rw [e2]
    exact h3.lt
theorem LIx.frame (h : LIx own W cs S) (hf : ∀ i, own i → W'.heap[i]? = W.heap[i]?) : LIx own W' cs S := by
  obtain ⟨M, rfl, h1, h2⟩ := h
  refine ⟨M, rfl, fun k hk => ?_, h2⟩
  rcases h1 k hk with h3 | ⟨mb, e2, h3⟩
  · exact .inl h3
  · exact .inr ⟨mb, e2, h3.same (hf mb ((h2 mb).2 ⟨k, hk, e2⟩))⟩
theorem LIx.below (h : LIx own W cs S) (hb : Below W.heap.size W W') : LIx own W' cs S := h.frame fun i hi => hb.block i (h.lt hi)
/-- a method's answer -/
def IxAns (own : Nat → Prop) (S' : Ix.St) (w : World) (e : Ending) (w' : World) : Prop :=
  ∃ cs' own', e = .returned (.agg cs'.toArray) ∧ LIx own' w' cs' S' ∧ (∀ i, own' i → own i ∨ w.heap.size ≤ i) ∧ Below w.heap.size w w'
theorem WithTo.ans {M : Nat → Value} {k : Nat} {s' : Ix.Sl} {w w' : World} {e : Ending} (h1 : ∀ j, j < 16 → MapOf w (M j) (S j).sl) (h2 : ∀ i, own i ↔ ∃ j, j < 16 ∧ M j = .map (some i)) (hk : k < 16) (h : WithTo S M k s' w e w') : IxAns own (Ix.upd S k s') w e w' := by
  obtain ⟨v', he, hm, hb⟩ := h
  refine ⟨_, fun i => ∃ j, j < 16 ∧ updH M k v' j = .map (some i), he, ⟨updH M k v', rfl, fun j hj => ?_, fun i => Iff.rfl⟩, fun i hi => ?_, hb⟩
  · by_cases e : j = k
    · subst e
      rw [Ix.upd_same, show updH M j v' j = v' by simp [updH]]
      rcases hm with ⟨h3, h4⟩ | ⟨h3, h4⟩ | ⟨mb, h3, h4, h5⟩
      · rw [h3, h4]; exact (h1 j hj).below hb
      · exact .inl ⟨h3, h4⟩
      · exact .inr ⟨mb, h3, h5⟩
    · rw [Ix.upd_far _ _ _ _ e, show updH M k v' j = M j by simp [updH, e]]
      exact (h1 j hj).below hb
  · obtain ⟨j, hj, h3⟩ := hi
    by_cases e : j = k
    · subst e
      rw [show updH M j v' j = v' by simp [updH]] at h3
      subst h3
      rcases hm with ⟨h3, h4⟩ | ⟨h3, h4⟩ | ⟨mb, h3, h4, h5⟩
      · exact .inl ((h2 i).2 ⟨j, hj, h3.symm⟩)
      · cases h3
      · injection h3 with h3
        injection h3 with h3
        right
        omega
    · rw [show updH M k v' j = M j by simp [updH, e]] at h3
      exact .inl ((h2 i).2 ⟨j, hj, h3⟩)
/-- behind a method's last store -/
theorem IxAns.put {own2 : Nat → Prop} {w w1 w2 : World} {q : Nat} {z0 cs2 : List Value} {S' : Ix.St} (hlt : ∀ i, own i → i < w.heap.size) (hb1 : Below w.heap.size w w1) (hq : w.heap.size ≤ q) (hz : IxBox w1 q z0) (hzl : z0.length = 176)
    (h : LIx own2 w2 cs2 S') (ho : ∀ i, own2 i → own i ∨ w1.heap.size ≤ i) (hb2 : Below w1.heap.size w1 w2) :
    (w2.there q 0 cs2.toArray.size) ∧ (Tryd.prog.info? 35).map (·.size) = some cs2.toArray.size ∧ cs2.toArray.all (·.oneCell') = true ∧ (w2.setCells q 0 cs2).rangeAt q 0 cs2 ∧ IxAns own S' w (.returned (.agg cs2.toArray)) (w2.setCells q 0 cs2) := by
  have hs : cs2.toArray.size = 176 := List.size_toArray.trans h.len
  have hz2 := hz.below hb2
  have hql := hz.lt
  refine ⟨by rw [hs]; exact hz2.there hzl, by rw [hs]; exact ix_size, all_oneCell_toArray h.one, (hz2.put (h.len.trans hzl.symm)).range, cs2, own2, rfl, h.frame fun i hi => ?_, fun i hi => ?_, below_row _ _ _ _ hq (hb1.trans (hb2.mono hb1.size))⟩
  · refine (Else.setCells cs2 0 w2 (Else.refl q w2)).same i ?_
    rcases ho i hi with h1 | h1
    · have := hlt i h1
      omega
    · omega
  · rcases ho i hi with h1 | h1
    · exact .inl h1
    · have := hb1.size
      right
      omega
theorem res_ix {U : World} {fn : Func} {tm : Array Value} {n q : Nat} {cs : List Value} (hf : fn.results = #[.cell n 35]) (hd : cs.length = 176) (h4 : tm.getD n undef = .pointer (some ⟨q, 0, none⟩)) (hr : U.rangeAt q 0 cs) :
    (results fn tm).run Tryd.prog U = .ok (.agg cs.toArray) U := by
  have h5 : tm[n]?.getD undef = .pointer (some ⟨q, 0, none⟩) := by simpa using h4
  have hl := run_loadVar_mid (P := Tryd.prog) U q 0 35 cs _ hr Tryd.underlying35 (by rfl) (by rw [hd]; exact ix_size)
  simp [results, hf, h5, asAddr, hl]
end
set_option maxHeartbeats 2000000 in
theorem new_any (W : World) : Calls Tryd.prog 13 #[] W fun e W' => ∃ cs own, e = .returned (.agg cs.toArray) ∧ LIx own W' cs Ix.st0 ∧ (∀ i, own i → W.heap.size ≤ i) ∧ Below W.heap.size W W' := by
  have hz := ixP_zero
  have hzl := ixP_length Ix.st0 fun _ => .map none
  have hzo : (ixP Ix.st0 fun _ => .map none).toArray.all (·.oneCell') = true := all_oneCell_toArray (ixP_one fun _ _ => rfl)
  have hL : ∀ W', LIx (fun _ => False) W' (ixP Ix.st0 fun _ => .map none) Ix.st0 := fun W' => ⟨fun _ => .map none, rfl, fun _ _ => .inl ⟨rfl, rfl⟩, fun i => ⟨False.elim, fun ⟨_, _, e⟩ => by cases e⟩⟩
  generalize (ixP Ix.st0 fun _ => .map none) = z0 at *
  have hx0 : IxBox (W.alloc (.cells z0.toArray 35)) W.heap.size z0 := heap_alloc_new W _
  have hsz : z0.toArray.size = 176 := List.size_toArray.trans hzl
  have HT : Hid ((W.alloc (.cells z0.toArray 35)).there W.heap.size 0 z0.toArray.size) := Lib.hid (by rw [hsz]; exact hx0.there hzl)
  have HSZ : Hid ((Tryd.prog.info? 35).map (·.size) = some z0.toArray.size) := Lib.hid (by rw [hsz]; exact ix_size)
  have HO := Lib.hid hzo
  have HRES := Lib.hid (hx0.put rfl).range
  have HBL := Lib.hid (below_row z0 W.heap.size 0 _ (Nat.le_refl _) ((Below.refl _ W).alloc (Nat.le_refl _) (.cells z0.toArray 35)))
  have HL := Lib.hid hL
  have HZL := Lib.hid hzl
  clear hL hzo hx0 hsz hzl
  go_enter Tryd.func13, Tryd.ntmps13
  go_wp2_with (refine wpList_store_mid (by rfl) 35 (.tmp 0) (.tmp 1) (by rfl) W.heap.size 0 z0.toArray (by rfl) (by rfl) HT.out HSZ.out HO.out ?_; rw [List.toList_toArray])
  exact bodyPost_ret (res_ix rfl HZL.out (by rfl) HRES.out) rfl ⟨z0, _, rfl, HL.out _, fun _ h => h.elim, HBL.out⟩
theorem withBound_any {own : Nat → Prop} {w : World} {cs : List Value} {S : Ix.St} (h : LIx own w cs S) (hS : Ix.Ok S) (b : Ix.Bd) (a : Ix.Ad) (pb pa : Nat) (hb : w.heap[pb]? = some (bdO b)) (ha : w.heap[pa]? = some (adO a)) :
    Calls Tryd.prog 30 #[.agg cs.toArray, .int .i64 b.obj, .func (.func 31) #[] #[.pointer (some ⟨pb, 0, none⟩), .pointer (some ⟨pa, 0, none⟩)]] w (IxAns own (Ix.bnd S b a) w) := by
  obtain ⟨M, rfl, h1, h2⟩ := h
  have hM : ∀ k, k < 16 → (M k).oneCell' = true := fun k hk => (h1 k hk).one
  unfold Ix.bnd
  cases hm : Ix.may b.obj
  · rw [if_neg (by simp)]
    refine (withBound_no S M hM _ hm pb pa w).mono ?_
    rintro e w' ⟨rfl, hb⟩
    exact ⟨_, own, rfl, LIx.below ⟨M, rfl, h1, h2⟩ hb, fun i hi => .inl hi, hb⟩
  · rw [if_pos rfl]
    have ho : 0 ≤ b.obj ∧ b.obj ≤ 15 := by unfold Ix.may at hm; exact of_decide_eq_true hm
    obtain ⟨k, hk⟩ : ∃ k : Nat, b.obj = (k : Int) := ⟨(b.obj).toNat, by omega⟩
    have hk16 : k < 16 := by omega
    have e : (b.obj).toNat = k := by omega
    rw [e]
    have hc := withBound_yes S M hM k hk16 (Ix.bnd1 (S k) b a) pb pa w fun W hB => boundC_any (hS k) (M k) (hM k hk16) b a W pb pa ((hB.block pb (lt_of_at hb)).trans hb) ((hB.block pa (lt_of_at ha)).trans ha)
    rw [hk]
    exact hc.mono fun _ _ ht => ht.ans h1 h2 hk16
set_option maxHeartbeats 4000000 in
theorem lxBound_any {own : Nat → Prop} {w : World} {cs : List Value} {S : Ix.St} (b : Ix.Bd) (a : Ix.Ad) (h : LIx own w cs S) (hS : Ix.Ok S) :
    Calls Tryd.prog 9 #[.agg cs.toArray, bdV b, adV a] w (IxAns own (Ix.bnd S b a) w) := by
  have hz := ixP_zero
  have hzl := ixP_length Ix.st0 fun _ => .map none
  generalize (ixP Ix.st0 fun _ => .map none) = z0 at *
  obtain ⟨w1, hw1⟩ : ∃ w1, w1 = (((w.alloc (.cells cs.toArray 35)).alloc (bdO b)).alloc (adO a)).alloc (.cells z0.toArray 35) := ⟨_, rfl⟩
  have hb1 : Below w.heap.size w w1 := by rw [hw1]; exact ((((Below.refl _ w).alloc (Nat.le_refl _) _).alloc (by simp) _).alloc (by simp; omega) _).alloc (by simp; omega) _
  have hq : w1.heap.size = w.heap.size + 4 := by rw [hw1]; simp
  have hx1 : IxBox w1 w.heap.size cs := by
    rw [hw1]
    exact (Below.heap_alloc _ _ _ (by simp; omega)).trans ((Below.heap_alloc _ _ _ (by simp; omega)).trans ((Below.heap_alloc _ _ _ (by simp)).trans (heap_alloc_new w _)))
  have hr1 : IxBox w1 (w.heap.size + 3) z0 := by
    have h9 := heap_alloc_new (((w.alloc (.cells cs.toArray 35)).alloc (bdO b)).alloc (adO a)) (.cells z0.toArray 35)
    rw [show (((w.alloc (.cells cs.toArray 35)).alloc (bdO b)).alloc (adO a)).heap.size = w.heap.size + 3 by simp] at h9
    rw [hw1]
    exact h9
  have hc1 : w1.heap[w.heap.size + 1]? = some (bdO b) := by
    have h9 := heap_alloc_new (w.alloc (.cells cs.toArray 35)) (bdO b)
    rw [show (w.alloc (.cells cs.toArray 35)).heap.size = w.heap.size + 1 by simp] at h9
    rw [hw1]
    exact (Below.heap_alloc _ _ _ (by simp)).trans ((Below.heap_alloc _ _ _ (by simp)).trans (h9))
  have hc2 : w1.heap[w.heap.size + 2]? = some (adO a) := by
    have h9 := heap_alloc_new ((w.alloc (.cells cs.toArray 35)).alloc (bdO b)) (adO a)
    rw [show ((w.alloc (.cells cs.toArray 35)).alloc (bdO b)).heap.size = w.heap.size + 2 by simp] at h9
    rw [hw1]
    exact (Below.heap_alloc _ _ _ (by simp)).trans (h9)
  have hR1 := h.below hb1
  have cw := withBound_any hR1 hS b a (w.heap.size + 1) (w.heap.size + 2) hc1 hc2
  have HQ : Hid (∀ own2 cs2 w2, LIx own2 w2 cs2 (Ix.bnd S b a) → (∀ i, own2 i → own i ∨ w1.heap.size ≤ i) → Below w1.heap.size w1 w2 → _) := Lib.hid fun own2 cs2 w2 a1 a2 a3 => IxAns.put (own := own) (fun i hi => h.lt hi) hb1 (by omega) hr1 hzl a1 a2 a3
  have HRG := Lib.hid hx1.range
  have HSZ : Hid ((Tryd.prog.info? 35).map (·.size) = some cs.length) := Lib.hid (by rw [h.len]; exact ix_size)
  have hmf : ∀ (fn : Fn) (first cap : Array Value) (w : World), (Instr.makeFunc fn first cap).run Tryd.prog w = .ok (.func fn first cap) w := fun _ _ _ _ => rfl
  obtain ⟨S2, hS2⟩ : ∃ S2, S2 = Ix.bnd S b a := ⟨_, rfl⟩
  rw [← hS2] at cw HQ ⊢
  clear hb1 hx1 hr1 hR1 h hS hzl hq hS2 hc1 hc2
  subst hw1
  obtain ⟨obj, gen, tag, len, tick⟩ := b
  obtain ⟨a1, a2⟩ := a
  try dsimp only at cw HRG HQ
  go_enter Tryd.func9, Tryd.ntmps9
  go_wp2_with (first
    | (refine wpList_load_mid (by rfl) 35 (.tmp 3) (by rfl) w.heap.size 0 (by rfl) cs _ HRG.out Tryd.underlying35 (by rfl) HSZ.out ?_)
    | (go_at_call 30; (with_reducible refine cw.mono ?_); rintro e w2 ⟨cs2, own2, rfl, a1, a2, a3⟩; obtain ⟨h1, h2, h3, h4, h5⟩ := HQ.out own2 cs2 w2 a1 a2 a3; have HT := Lib.hid h1; have HSZ2 := Lib.hid h2; have HO := Lib.hid h3; have HRES := Lib.hid h4; have HEND := Lib.hid h5; have HL := Lib.hid a1.len; clear a1 a2 a3 h1 h2 h3 h4 h5)
    | (refine wpList_store_mid (by rfl) 35 (.tmp 6) (.tmp 11) (by rfl) (w.heap.size + 3) 0 cs2.toArray (by rfl) (by rfl) HT.out HSZ2.out HO.out ?_; rw [List.toList_toArray]))
  exact bodyPost_ret (res_ix rfl HL.out (by rfl) HRES.out) rfl HEND.out
theorem withPiece_any {own : Nat → Prop} {w : World} {cs : List Value} {S : Ix.St} (h : LIx own w cs S) (hS : Ix.Ok S) (o gen i : Int) (a : Ix.Ad) (pg pi pa : Nat) (hg : w.heap[pg]? = some (intO gen)) (hi : w.heap[pi]? = some (intO i)) (ha : w.heap[pa]? = some (adO a)) :
    Calls Tryd.prog 30 #[.agg cs.toArray, .int .i64 o, .func (.func 34) #[] #[.pointer (some ⟨pg, 0, none⟩), .pointer (some ⟨pi, 0, none⟩), .pointer (some ⟨pa, 0, none⟩)]] w (IxAns own (Ix.pc S o gen i a) w) := by
  obtain ⟨M, rfl, h1, h2⟩ := h
  have hM : ∀ k, k < 16 → (M k).oneCell' = true := fun k hk => (h1 k hk).one
  unfold Ix.pc
  cases hm : Ix.may o
  · rw [if_neg (by simp)]
    refine (withPiece_no S M hM _ hm pg pi pa w).mono ?_
    rintro e w' ⟨rfl, hb⟩
    exact ⟨_, own, rfl, LIx.below ⟨M, rfl, h1, h2⟩ hb, fun i hi => .inl hi, hb⟩
  · rw [if_pos rfl]
    have ho : 0 ≤ o ∧ o ≤ 15 := by unfold Ix.may at hm; exact of_decide_eq_true hm
    obtain ⟨k, hk⟩ : ∃ k : Nat, o = (k : Int) := ⟨(o).toNat, by omega⟩
    have hk16 : k < 16 := by omega
    have e : (o).toNat = k := by omega
    rw [e]
    have hc := withPiece_yes S M hM k hk16 (Ix.pc1 (S k) gen i a) pg pi pa w fun W hB => pieceC_any (hS k) (M k) gen i a W pg pi pa ((h1 k hk16).below hB) ((hB.block pg (lt_of_at hg)).trans hg) ((hB.block pi (lt_of_at hi)).trans hi) ((hB.block pa (lt_of_at ha)).trans ha)
    rw [hk]
    exact hc.mono fun _ _ ht => ht.ans h1 h2 hk16
set_option maxHeartbeats 4000000 in
theorem lxPiece_any {own : Nat → Prop} {w : World} {cs : List Value} {S : Ix.St} (o gen i : Int) (a : Ix.Ad) (h : LIx own w cs S) (hS : Ix.Ok S) :
    Calls Tryd.prog 10 #[.agg cs.toArray, .int .i64 o, .int .i64 gen, .int .i64 i, adV a] w (IxAns own (Ix.pc S o gen i a) w) := by
  have hz := ixP_zero
  have hzl := ixP_length Ix.st0 fun _ => .map none
  generalize (ixP Ix.st0 fun _ => .map none) = z0 at *
  obtain ⟨w1, hw1⟩ : ∃ w1, w1 = ((((w.alloc (.cells cs.toArray 35)).alloc (intO gen)).alloc (intO i)).alloc (adO a)).alloc (.cells z0.toArray 35) := ⟨_, rfl⟩
  have hb1 : Below w.heap.size w w1 := by rw [hw1]; exact (((((Below.refl _ w).alloc (Nat.le_refl _) _).alloc (by simp) _).alloc (by simp; omega) _).alloc (by simp; omega) _).alloc (by simp; omega) _
  have hq : w1.heap.size = w.heap.size + 5 := by rw [hw1]; simp
  have hx1 : IxBox w1 w.heap.size cs := by
    rw [hw1]
    exact (Below.heap_alloc _ _ _ (by simp; omega)).trans ((Below.heap_alloc _ _ _ (by simp; omega)).trans ((Below.heap_alloc _ _ _ (by simp; omega)).trans ((Below.heap_alloc _ _ _ (by simp)).trans (heap_alloc_new w _))))
  have hr1 : IxBox w1 (w.heap.size + 4) z0 := by
    have h9 := heap_alloc_new ((((w.alloc (.cells cs.toArray 35)).alloc (intO gen)).alloc (intO i)).alloc (adO a)) (.cells z0.toArray 35)
    rw [show ((((w.alloc (.cells cs.toArray 35)).alloc (intO gen)).alloc (intO i)).alloc (adO a)).heap.size = w.heap.size + 4 by simp] at h9
    rw [hw1]
    exact h9
  have hc1 : w1.heap[w.heap.size + 1]? = some (intO gen) := by
    have h9 := heap_alloc_new (w.alloc (.cells cs.toArray 35)) (intO gen)
    rw [show (w.alloc (.cells cs.toArray 35)).heap.size = w.heap.size + 1 by simp] at h9
    rw [hw1]
    exact (Below.heap_alloc _ _ _ (by simp)).trans ((Below.heap_alloc _ _ _ (by simp)).trans ((Below.heap_alloc _ _ _ (by simp)).trans (h9)))
  have hc2 : w1.heap[w.heap.size + 2]? = some (intO i) := by
    have h9 := heap_alloc_new ((w.alloc (.cells cs.toArray 35)).alloc (intO gen)) (intO i)
    rw [show ((w.alloc (.cells cs.toArray 35)).alloc (intO gen)).heap.size = w.heap.size + 2 by simp] at h9
    rw [hw1]
    exact (Below.heap_alloc _ _ _ (by simp)).trans ((Below.heap_alloc _ _ _ (by simp)).trans (h9))
  have hc3 : w1.heap[w.heap.size + 3]? = some (adO a) := by
    have h9 := heap_alloc_new (((w.alloc (.cells cs.toArray 35)).alloc (intO gen)).alloc (intO i)) (adO a)
    rw [show (((w.alloc (.cells cs.toArray 35)).alloc (intO gen)).alloc (intO i)).heap.size = w.heap.size + 3 by simp] at h9
    rw [hw1]
    exact (Below.heap_alloc _ _ _ (by simp)).trans (h9)
  have hR1 := h.below hb1
  have cw := withPiece_any hR1 hS o gen i a (w.heap.size + 1) (w.heap.size + 2) (w.heap.size + 3) hc1 hc2 hc3
  have HQ : Hid (∀ own2 cs2 w2, LIx own2 w2 cs2 (Ix.pc S o gen i a) → (∀ i, own2 i → own i ∨ w1.heap.size ≤ i) → Below w1.heap.size w1 w2 → _) := Lib.hid fun own2 cs2 w2 a1 a2 a3 => IxAns.put (own := own) (fun i hi => h.lt hi) hb1 (by omega) hr1 hzl a1 a2 a3
  have HRG := Lib.hid hx1.range
  have HSZ : Hid ((Tryd.prog.info? 35).map (·.size) = some cs.length) := Lib.hid (by rw [h.len]; exact ix_size)
  have hmf : ∀ (fn : Fn) (first cap : Array Value) (w : World), (Instr.makeFunc fn first cap).run Tryd.prog w = .ok (.func fn first cap) w := fun _ _ _ _ => rfl
  obtain ⟨S2, hS2⟩ : ∃ S2, S2 = Ix.pc S o gen i a := ⟨_, rfl⟩
  rw [← hS2] at cw HQ ⊢
  clear hb1 hx1 hr1 hR1 h hS hzl hq hS2 hc1 hc2 hc3
  subst hw1
  obtain ⟨a1, a2⟩ := a
  try dsimp only at cw HRG HQ
  go_enter Tryd.func10, Tryd.ntmps10
  go_wp2_with (first
    | (refine wpList_load_mid (by rfl) 35 (.tmp 5) (by rfl) w.heap.size 0 (by rfl) cs _ HRG.out Tryd.underlying35 (by rfl) HSZ.out ?_)
    | (go_at_call 30; (with_reducible refine cw.mono ?_); rintro e w2 ⟨cs2, own2, rfl, a1, a2, a3⟩; obtain ⟨h1, h2, h3, h4, h5⟩ := HQ.out own2 cs2 w2 a1 a2 a3; have HT := Lib.hid h1; have HSZ2 := Lib.hid h2; have HO := Lib.hid h3; have HRES := Lib.hid h4; have HEND := Lib.hid h5; have HL := Lib.hid a1.len; clear a1 a2 a3 h1 h2 h3 h4 h5)
    | (refine wpList_store_mid (by rfl) 35 (.tmp 10) (.tmp 14) (by rfl) (w.heap.size + 4) 0 cs2.toArray (by rfl) (by rfl) HT.out HSZ2.out HO.out ?_; rw [List.toList_toArray]))
  exact bodyPost_ret (res_ix rfl HL.out (by rfl) HRES.out) rfl HEND.out
theorem withForget_any {own : Nat → Prop} {w : World} {cs : List Value} {S : Ix.St} (h : LIx own w cs S) (hS : Ix.Ok S) (o gen : Int) (a : Ix.Ad) (pg pa : Nat) (hg : w.heap[pg]? = some (intO gen)) (ha : w.heap[pa]? = some (adO a)) :
    Calls Tryd.prog 30 #[.agg cs.toArray, .int .i64 o, .func (.func 38) #[] #[.pointer (some ⟨pg, 0, none⟩), .pointer (some ⟨pa, 0, none⟩)]] w (IxAns own (Ix.fgt S o gen a) w) := by
  obtain ⟨M, rfl, h1, h2⟩ := h
  have hM : ∀ k, k < 16 → (M k).oneCell' = true := fun k hk => (h1 k hk).one
  unfold Ix.fgt
  cases hm : Ix.may o
  · rw [if_neg (by simp)]
    refine (withForget_no S M hM _ hm pg pa w).mono ?_
    rintro e w' ⟨rfl, hb⟩
    exact ⟨_, own, rfl, LIx.below ⟨M, rfl, h1, h2⟩ hb, fun i hi => .inl hi, hb⟩
  · rw [if_pos rfl]
    have ho : 0 ≤ o ∧ o ≤ 15 := by unfold Ix.may at hm; exact of_decide_eq_true hm
    obtain ⟨k, hk⟩ : ∃ k : Nat, o = (k : Int) := ⟨(o).toNat, by omega⟩
    have hk16 : k < 16 := by omega
    have e : (o).toNat = k := by omega
    rw [e]
    have hc := withForget_yes S M hM k hk16 (Ix.fgt1 (S k) gen a) pg pa w fun W hB => forgetC_any (hS k) (M k) (hM k hk16) gen a W pg pa ((hB.block pg (lt_of_at hg)).trans hg) ((hB.block pa (lt_of_at ha)).trans ha)
    rw [hk]
    exact hc.mono fun _ _ ht => ht.ans h1 h2 hk16
set_option maxHeartbeats 4000000 in
theorem lxForget_any {own : Nat → Prop} {w : World} {cs : List Value} {S : Ix.St} (o gen : Int) (a : Ix.Ad) (h : LIx own w cs S) (hS : Ix.Ok S) :
    Calls Tryd.prog 11 #[.agg cs.toArray, .int .i64 o, .int .i64 gen, adV a] w (IxAns own (Ix.fgt S o gen a) w) := by
  have hz := ixP_zero
  have hzl := ixP_length Ix.st0 fun _ => .map none
  generalize (ixP Ix.st0 fun _ => .map none) = z0 at *
  obtain ⟨w1, hw1⟩ : ∃ w1, w1 = (((w.alloc (.cells cs.toArray 35)).alloc (intO gen)).alloc (adO a)).alloc (.cells z0.toArray 35) := ⟨_, rfl⟩
  have hb1 : Below w.heap.size w w1 := by rw [hw1]; exact ((((Below.refl _ w).alloc (Nat.le_refl _) _).alloc (by simp) _).alloc (by simp; omega) _).alloc (by simp; omega) _
  have hq : w1.heap.size = w.heap.size + 4 := by rw [hw1]; simp
  have hx1 : IxBox w1 w.heap.size cs := by
    rw [hw1]
    exact (Below.heap_alloc _ _ _ (by simp; omega)).trans ((Below.heap_alloc _ _ _ (by simp; omega)).trans ((Below.heap_alloc _ _ _ (by simp)).trans (heap_alloc_new w _)))
  have hr1 : IxBox w1 (w.heap.size + 3) z0 := by
    have h9 := heap_alloc_new (((w.alloc (.cells cs.toArray 35)).alloc (intO gen)).alloc (adO a)) (.cells z0.toArray 35)
    rw [show (((w.alloc (.cells cs.toArray 35)).alloc (intO gen)).alloc (adO a)).heap.size = w.heap.size + 3 by simp] at h9
    rw [hw1]
    exact h9
  have hc1 : w1.heap[w.heap.size + 1]? = some (intO gen) := by
    have h9 := heap_alloc_new (w.alloc (.cells cs.toArray 35)) (intO gen)
    rw [show (w.alloc (.cells cs.toArray 35)).heap.size = w.heap.size + 1 by simp] at h9
    rw [hw1]
    exact (Below.heap_alloc _ _ _ (by simp)).trans ((Below.heap_alloc _ _ _ (by simp)).trans (h9))
  have hc2 : w1.heap[w.heap.size + 2]? = some (adO a) := by
    have h9 := heap_alloc_new ((w.alloc (.cells cs.toArray 35)).alloc (intO gen)) (adO a)
    rw [show ((w.alloc (.cells cs.toArray 35)).alloc (intO gen)).heap.size = w.heap.size + 2 by simp] at h9
    rw [hw1]
    exact (Below.heap_alloc _ _ _ (by simp)).trans (h9)
  have hR1 := h.below hb1
  have cw := withForget_any hR1 hS o gen a (w.heap.size + 1) (w.heap.size + 2) hc1 hc2
  have HQ : Hid (∀ own2 cs2 w2, LIx own2 w2 cs2 (Ix.fgt S o gen a) → (∀ i, own2 i → own i ∨ w1.heap.size ≤ i) → Below w1.heap.size w1 w2 → _) := Lib.hid fun own2 cs2 w2 a1 a2 a3 => IxAns.put (own := own) (fun i hi => h.lt hi) hb1 (by omega) hr1 hzl a1 a2 a3
  have HRG := Lib.hid hx1.range
  have HSZ : Hid ((Tryd.prog.info? 35).map (·.size) = some cs.length) := Lib.hid (by rw [h.len]; exact ix_size)
  have hmf : ∀ (fn : Fn) (first cap : Array Value) (w : World), (Instr.makeFunc fn first cap).run Tryd.prog w = .ok (.func fn first cap) w := fun _ _ _ _ => rfl
  obtain ⟨S2, hS2⟩ : ∃ S2, S2 = Ix.fgt S o gen a := ⟨_, rfl⟩
  rw [← hS2] at cw HQ ⊢
  clear hb1 hx1 hr1 hR1 h hS hzl hq hS2 hc1 hc2
  subst hw1
  obtain ⟨a1, a2⟩ := a
  try dsimp only at cw HRG HQ
  go_enter Tryd.func11, Tryd.ntmps11
  go_wp2_with (first
    | (refine wpList_load_mid (by rfl) 35 (.tmp 4) (by rfl) w.heap.size 0 (by rfl) cs _ HRG.out Tryd.underlying35 (by rfl) HSZ.out ?_)
    | (go_at_call 30; (with_reducible refine cw.mono ?_); rintro e w2 ⟨cs2, own2, rfl, a1, a2, a3⟩; obtain ⟨h1, h2, h3, h4, h5⟩ := HQ.out own2 cs2 w2 a1 a2 a3; have HT := Lib.hid h1; have HSZ2 := Lib.hid h2; have HO := Lib.hid h3; have HRES := Lib.hid h4; have HEND := Lib.hid h5; have HL := Lib.hid a1.len; clear a1 a2 a3 h1 h2 h3 h4 h5)
    | (refine wpList_store_mid (by rfl) 35 (.tmp 8) (.tmp 12) (by rfl) (w.heap.size + 3) 0 cs2.toArray (by rfl) (by rfl) HT.out HSZ2.out HO.out ?_; rw [List.toList_toArray]))
  exact bodyPost_ret (res_ix rfl HL.out (by rfl) HRES.out) rfl HEND.out
theorem ixPrg : IxPrg LIx 176 where
  size := ix_size
  len := fun h => h.len
  one := fun h => h.one
  lt := fun h hi => h.lt hi
  frame := fun h hf => h.frame hf
  new := new_any
  bound := fun b a h hS => lxBound_any b a h hS
  piece := fun o g i a h hS => lxPiece_any o g i a h hS
  forget := fun o g a h hS => lxForget_any o g a h hS
end Go.Proofs.YtcmhodimkpkmbaaDoor
