/-
  List (over a program of 65 words).
-/
import Derived.Test.YtcmhodimkpkmbaaDoorBitAll
import Derived.Test.YtcmhodimkpkmbaaDoorNumsTo
import Derived.Test.YtcmhodimkpkmbaaDoorBitVar
import Derived.Maps.AppendAt
namespace Go.Proofs.YtcmhodimkpkmbaaDoor
open Go.ChangeShapes Go.WideShapes Go.ChangeAt Go.RowKit Go.Shelf
set_option maxRecDepth 100000
attribute [local go_sem] Oper.semAt_some

set_option maxHeartbeats 4000000 in
theorem list_any (s : Nat → Bool) (w : World) (ht : Tab64 w) : Calls Tryd.prog 28 #[mapV s] w (NumsTo (Bm.lst s 4160) w) := by
  have HT := Lib.hid ht
  have HTL := Lib.hid ht.at.lt
  unfold mapV
  have a0 := MapAt.new w s
  obtain ⟨w1, hw1⟩ : ∃ w1, w1 = (w.alloc (.cells (mapC s).toArray 76)).alloc (.cells #[.slice none 0 0] 68) := ⟨_, rfl⟩
  have hb1 : Below w.heap.size w w1 := by rw [hw1]; exact ((Below.refl _ w).alloc (Nat.le_refl _) _).alloc (by simp) _
  have hm1 : MapAt w1 w.heap.size s := by rw [hw1]; exact a0.below ((Below.refl _ _).alloc (Nat.le_refl _) _) a0.lt
  have hx1 : Boxed w1 (w.heap.size + 1) 68 (.slice none 0 0) := by
    have h9 := Boxed.new (w.alloc (.cells (mapC s).toArray 76)) 68 (.slice none 0 0)
    rw [World.size_alloc] at h9
    rw [hw1]
    exact h9
  have HW1 := Lib.hid hw1
  have HB1 := Lib.hid hb1
  have HX1 := Lib.hid hx1
  have HR1 := Lib.hid hm1.range
  have HI1 := Lib.hid (map_infoC s)
  have cA := fun W => all_any s W
  have HITS := Lib.hid (fun W (h : TabAt W) => all_its s W.heap.size (W.alloc (.cells (mapC s).toArray 76)) (MapAt.new W s) (h.below ((Below.refl _ W).alloc (Nat.le_refl _) _)))
  have HLEN : Hid ((Bm.lst s 4160).length = Bm.cnt s 4160) := Lib.hid (Bm.lst_length s 4160)
  have HLE := Lib.hid (Bm.cnt_le s 4160)
  clear a0 hb1 hm1 hx1 ht hw1
  unfold mapV at cA
  generalize Bm.cnt s 4160 = N at *
  generalize Bm.lst s 4160 = S at *
  generalize mapC s = cs at *
  obtain ⟨i0, hi0, hz0, hz1, hz2⟩ := info_parts int_infoS
  refine (callsIn_wide (n := 30)).1 ?_
  refine callsIn_of_wp_marks Tryd.func28 rfl trivial ?_ rfl
  simp only [Tryd.ntmps28, List.size_toArray, List.length_cons, List.length_nil, Nat.reduceAdd, Nat.reduceSub, Array.replicate_succ, Array.replicate_zero, List.push_toArray, List.append_toArray, List.nil_append, List.cons_append]
  refine (wpIn_wide (n := 30)).2 ?_
  go_wp2_with (first
    | (rw [← HW1.out]; refine wpList_load_mid (by rfl) 76 (.tmp 1) (by rfl) w.heap.size 0 (by rfl) cs _ HR1.out Tryd.underlying76 (by rfl) HI1.out ?_)
    | (go_at_call 41; (with_reducible refine (cA _).mono ?_); rintro e w2 ⟨rfl, rfl⟩))
  rename_i Kr hKr
  refine (wpIn_wide (n := 30)).1 ?_
  have hits := HITS.out w1 (HT.out.on HB1.out).at
  have hbV : Below w.heap.size w (w1.alloc (.cells cs.toArray 76)) := HB1.out.alloc HB1.out.size _
  have hxV := HX1.out.alloc (.cells cs.toArray 76)
  generalize (w1.alloc (.cells cs.toArray 76)) = V at *
  have hlow : w.heap.size + 1 < V.heap.size := hxV.lt
  refine wpIn_itsF (n := 30) (gf := 44) (lb := #[.pointer (some ⟨w1.heap.size, 0, none⟩)]) rfl all_enters hits (Below.refl _ _) (fun j h => by have := HTL.out; have := hbV.size; omega) (fun _ => rfl)
    (fun m X => (∃ v, Boxed X (w.heap.size + 1) 68 v ∧ X.ownsRow w.heap.size 3 1 v m (nums .i64 (S.take m)) ∧ True) ∧ Below w.heap.size w X)
    (fun _ _ _ => False)
    (OwnFrom.and (Own.from (holdsRow_own w.heap.size (w.heap.size + 1) 68 3 1 (fun m => m) (fun m => nums .i64 (S.take m)) (fun _ _ => True)) _) (ownFrom_below (Nat.le_refl _) (by omega)))
    (fun _ _ _ _ _ hs _ _ => hs.elim)
    ⟨⟨_, hxV, ⟨rfl, .inl ⟨rfl, rfl⟩⟩, trivial⟩, hbV⟩
    (fun m a' _ => a' = { tmps := #[.agg cs.toArray, .pointer (some ⟨w.heap.size, 0, none⟩), .slice none 0 0, .pointer (some ⟨w.heap.size + 1, 0, none⟩), .int .i64 (numAt S m), .agg cs.toArray, .func (.func 44) #[] #[.pointer (some ⟨w1.heap.size, 0, none⟩)], .int .i64 (numAt S m), undef, undef, undef, undef, undef], defers := [] })
    (fun m a' _ X Y row hs hg hr => hs)
    ?assign ?body ?done ?stop
  case assign =>
    rintro l2 m X K hm hX ⟨hT, hN⟩ hK
    gi_wp2
    exact hK _ _ (Stay.refl _ _) (KeepsFrom.refl _ _) ⟨hT, hN⟩ rfl
  case body =>
    rintro l2 m a' X hm hX ⟨⟨v, hv, hr, -⟩, hb⟩ rfl
    have hc := hv.cell
    have hle := HLE.out
    have htk := take_numAt (S := S) (m := m) (by rw [HLEN.out]; exact hm)
    generalize numAt S m = x at *
    gi_wp2_with (gi_at_builtin; refine wpListIn_append_own _ rfl _ _ 68 rfl w.heap.size 3 i0 (.int .i64 0) 1 8 Tryd.underlying68 hi0 hz0 hz1 hz2 rfl (by decide) _ _ _ rfl (hr.alloc _) ⟨X.heap.size, 0, none⟩ 1 1 [.int .i64 x] rfl rfl (cell_one_new _ _ _) (by simp [Value.oneCell']) (by unfold maxLen; omega) (by omega) (by have := hb.size; simp; omega) ?_; intro v' w4 hown' hgrow _; obtain ⟨g', cap', rfl⟩ := ownsRow_succ hown'; obtain ⟨hv1, hv2, hr2, hk2, hb2⟩ := hv.appended (by decide) hr hb.size (by omega) hown' hgrow; have hc1 := hv1.cell; have hf1 := hv1.frozen)
    refine ⟨⟨hk2.size, fun i _ hi => hb2.block i (by have := HTL.out; omega)⟩, hk2.from _, ⟨_, hv2, ?_, trivial⟩, hb.trans hb2⟩
    rw [htk, ← nums_append]
    exact hr2
  case done =>
    rintro D X hD ⟨⟨v, hv, hr, -⟩, hb⟩ hK
    have hN := HLEN.out
    subst hN
    rw [List.take_length] at hr
    have hr2 := ownsRow_putObj hr (.deferred none) hK rfl
    have hb2 : Below w.heap.size w (X.putObj D (.deferred none)) := hb.grown (grownBy_putObj' _ D _) hb.size (fun q e => by injection e with e; have := hbV.size; omega)
    obtain ⟨A9, c9, rfl, hvs, hcap⟩ := Vs.of_own hr2
    have hc := hv.cell
    refine hKr _ _ ?_
    clear hKr
    dsimp only
    go_wp2
    refine ⟨by simp, .inl ⟨_, _, rfl, run_takeDeferred hK, ?_⟩⟩
    exact ⟨_, results_tmp rfl _ _ _, A9, c9, rfl, hvs, hcap, hb2⟩
  case stop =>
    rintro D cc m X hD hm h hK
    exact h.elim
end Go.Proofs.YtcmhodimkpkmbaaDoor
