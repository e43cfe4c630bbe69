/-
  The landed ring: Has, Marked, Touch, Remove.
-/
import Derived.Test.YtlhkcfhhgcmieaaCkWith
namespace Go.Proofs.Ytlhkcfhhgcmieaa
open Go.ChangeShapes Go.WideShapes Go.ChangeAt Go.RowKit
set_option maxRecDepth 100000

theorem has_any {l : List Ck.Sit} (hl : l.length ≤ 16) (o : Int) (w : World) : Calls Try.prog 18 #[ringV l, .int .i64 o] w fun e w' => e = .returned (.bool (decide (Ck.pos l o < l.length))) ∧ Below w.heap.size w w' := by
  have hm := Bx.new w (ringC l) 28
  have hb0 : Below w.heap.size w (w.alloc (.cells (ringC l).toArray 28)) := (Below.refl _ _).alloc (Nat.le_refl _) _
  have cf := find_any hl o (w.alloc (.cells (ringC l).toArray 28))
  have HR := Lib.hid hm.range
  have HB0 := Lib.hid hb0
  have HS : Hid ((Try.prog.info? 28).map (·.size) = some (ringC l).length) := Lib.hid (by rw [ring_size, ringC_length hl])
  unfold ringV at cf ⊢
  unfold findV at cf
  clear hm hb0 hl
  generalize ringC l = cs at *
  generalize decide (Ck.pos l o < l.length) = q at *
  go_enter Try.func18, Try.ntmps18
  go_wp2_with (first
    | (refine wpList_load_mid (by rfl) 28 (.tmp 2) (by rfl) w.heap.size 0 (by rfl) cs _ HR.out Try.underlying28 (by rfl) HS.out ?_)
    | (go_at_call 20; (with_reducible refine cf.mono ?_); rintro e w1 ⟨rfl, hb1⟩; have HB1 := Lib.hid (HB0.out.trans (hb1.mono HB0.out.size)); clear hb1 cf))
  all_goals
    go_ret
    exact ⟨rfl, HB1.out⟩
theorem marked_any {l : List Ck.Sit} (hl : l.length ≤ 16) (o : Int) (w : World) : Calls Try.prog 14 #[ringV l, .int .i64 o] w fun e w' => e = .returned (.bool (Ck.mark l o)) ∧ Below w.heap.size w w' := by
  have hm := Bx.new w (ringC l) 28
  have hlt := hm.lt
  have hb0 : Below w.heap.size w (w.alloc (.cells (ringC l).toArray 28)) := (Below.refl _ _).alloc (Nat.le_refl _) _
  have cf := find_any hl o (w.alloc (.cells (ringC l).toArray 28))
  have HR := Lib.hid hm.range
  have HB0 := Lib.hid hb0
  have HS : Hid ((Try.prog.info? 28).map (·.size) = some (ringC l).length) := Lib.hid (by rw [ring_size, ringC_length hl])
  by_cases hp : Ck.pos l o < l.length
  · have HG : Hid (∀ w', Below (w.alloc (.cells (ringC l).toArray 28)).heap.size (w.alloc (.cells (ringC l).toArray 28)) w' → w'.cell? ⟨w.heap.size, Ck.pos l o * 2 + 1, none⟩ = some (.bool (Ck.mark l o))) := Lib.hid fun w' hb => by
      rw [(hm.below hb hlt).at, (ring_get hp).2, Ck.mark_yes hp]
    unfold findV at cf
    rw [if_pos hp, decide_eq_true hp] at cf
    have hk1 : (Ck.pos l o : Int) < 16 := by omega
    have hk0 : (0 : Int) ≤ (Ck.pos l o : Int) := by omega
    unfold ringV at cf ⊢
    clear hm hb0 hl hlt hp
    generalize ringC l = cs at *
    generalize Ck.mark l o = q at *
    generalize Ck.pos l o = k at *
    go_enter Try.func14, Try.ntmps14
    go_wp2_with (first
      | (refine wpList_load_mid (by rfl) 28 (.tmp 2) (by rfl) w.heap.size 0 (by rfl) cs _ HR.out Try.underlying28 (by rfl) HS.out ?_)
      | (go_at_call 20; (with_reducible refine cf.mono ?_); rintro e w1 ⟨rfl, hb1⟩; have HB1 := Lib.hid (HB0.out.trans (hb1.mono HB0.out.size)); have hq := HG.out w1 hb1; clear hb1 cf))
    go_ret
    exact ⟨rfl, HB1.out⟩
  · rw [Ck.mark_no hp]
    unfold findV at cf
    rw [if_neg hp, decide_eq_false hp] at cf
    unfold ringV at cf ⊢
    clear hm hb0 hl hlt hp
    generalize ringC l = cs at *
    go_enter Try.func14, Try.ntmps14
    go_wp2_with (first
      | (refine wpList_load_mid (by rfl) 28 (.tmp 2) (by rfl) w.heap.size 0 (by rfl) cs _ HR.out Try.underlying28 (by rfl) HS.out ?_)
      | (go_at_call 20; (with_reducible refine cf.mono ?_); rintro e w1 ⟨rfl, hb1⟩; have HB1 := Lib.hid (HB0.out.trans (hb1.mono HB0.out.size)); clear hb1 cf))
    go_ret
    exact ⟨rfl, HB1.out⟩
/-- what the end of a method that answers a ring wants: the variable for the result, set -/
structure RingOut (w W : World) (b : Nat) (cs : List Value) : Prop where
  there : W.there b 0 cs.toArray.size
  size : (Try.prog.info? 28).map (·.size) = some cs.toArray.size
  sizeL : (Try.prog.info? 28).map (·.size) = some cs.length
  one : cs.toArray.all (·.oneCell') = true
  len : cs.length = 33
  range : (W.setCells b 0 cs).rangeAt b 0 cs
  below : Below w.heap.size w (W.setCells b 0 cs)
theorem RingOut.mk' {w W : World} {b : Nat} {l : List Ck.Sit} {z : List Value} (hl : l.length ≤ 16) (hz : Bx W b 28 z) (hzl : z.length = 33) (hb : Below w.heap.size w W) (hB : w.heap.size ≤ b) : RingOut w W b (ringC l) := by
  have h1 : W.there b 0 (ringC l).toArray.size := hz.there (by simp [ringC_length hl, hzl])
  exact ⟨h1, by rw [ring_size]; simp [ringC_length hl], by rw [ring_size, ringC_length hl], all_oneCell_toArray (ringC_cell l), ringC_length hl, World.rangeAt_setCells_same W _ 0 _ (by simpa using h1), below_sets _ _ _ _ hB hb⟩
set_option maxHeartbeats 1000000 in
theorem touch_any {l : List Ck.Sit} (hl : l.length ≤ 16) (o : Int) (w : World) : Calls Try.prog 8 #[ringV l, .int .i64 o] w fun e w' => e = .returned (ringV (Ck.touch l o)) ∧ Below w.heap.size w w' := by
  have hz := ring_zero
  obtain ⟨wz, hwz⟩ : ∃ wz, wz = (w.alloc (.cells (ringC l).toArray 28)).alloc (.cells (ringC []).toArray 28) := ⟨_, rfl⟩
  obtain ⟨hb1, hb2, hbw⟩ := two_boxes hwz
  have cf := find_any hl o wz
  have HWZ := Lib.hid hwz
  have hlz := hb2.lt
  have HB0 := Lib.hid hbw
  have HR := Lib.hid hb1.range
  have HS : Hid ((Try.prog.info? 28).map (·.size) = some (ringC l).length) := Lib.hid (by rw [ring_size, ringC_length hl])
  by_cases hp : Ck.pos l o < l.length
  · have hpp : Ck.pos l o < (pad l).length := by rw [pad_length hl]; omega
    have hpe : (pad l)[Ck.pos l o] = l[Ck.pos l o] := by
      have h2 := pad_get hp
      rw [List.getElem?_eq_getElem hpp] at h2
      injection h2
    have HG : Hid (∀ w', Below wz.heap.size wz w' → ∃ v, w'.cell? ⟨w.heap.size, Ck.pos l o * 2 + 1, none⟩ = some v ∧ w'.frozen? ⟨w.heap.size, Ck.pos l o * 2 + 1, none⟩ = false ∧ (w'.setCell ⟨w.heap.size, Ck.pos l o * 2 + 1, none⟩ (.bool true)).rangeAt w.heap.size 0 (ringC (Ck.touch l o)) ∧ RingOut w (w'.setCell ⟨w.heap.size, Ck.pos l o * 2 + 1, none⟩ (.bool true)) (w.heap.size + 1) (ringC (Ck.touch l o))) := Lib.hid fun w' hb => by
      have g1 := hb1.below hb (by omega)
      have g2 := hb2.below hb hlz
      have g3 := hbw.trans (hb.mono hbw.size)
      refine ⟨_, (g1.at _).trans (ring_get hp).2, g1.frozen _, ?_, ?_⟩
      · have h1 := g1.set (Ck.pos l o * 2 + 1) (.bool true)
        unfold ringC at h1
        rw [rawC_setB _ hpp true, hpe, Ck.pos_at hp, pad_set hp] at h1
        have e : rawC (pad (l.set (Ck.pos l o) (o, true))) (l.length : Int) = ringC (Ck.touch l o) := by
          unfold ringC
          rw [Ck.touch_length]
          rfl
        rw [e] at h1
        exact h1.range
      · exact RingOut.mk' (by rw [Ck.touch_length]; exact hl) (g2.far (by dsimp only; omega) _) (ringC_length (by simp)) (g3.setCell (p := ⟨w.heap.size, _, none⟩) (Nat.le_refl _) _) (by omega)
    unfold findV at cf
    rw [if_pos hp, decide_eq_true hp] at cf
    have hk1 : (Ck.pos l o : Int) < 16 := by omega
    have hk0 : (0 : Int) ≤ (Ck.pos l o : Int) := by omega
    unfold ringV at cf ⊢
    clear hb1 hb2 hbw hwz hl hlz hp hpp hpe
    generalize ringC (Ck.touch l o) = c2 at *
    generalize ringC [] = z0 at *
    generalize ringC l = cs at *
    generalize Ck.pos l o = k at *
    go_enter Try.func8, Try.ntmps8
    go_upto_region 1 with fail
    rw [← HWZ.out]
    go_wp2_with (first
      | (refine wpList_load_mid (by rfl) 28 (.tmp 2) (by rfl) w.heap.size 0 (by rfl) cs _ HR.out Try.underlying28 (by rfl) HS.out ?_)
      | (go_at_call 20; (with_reducible refine cf.mono ?_); rintro e w1 ⟨rfl, hb1⟩; obtain ⟨vq, hq1, hq2, hq3, hq4⟩ := HG.out w1 hb1; have HQ3 := Lib.hid hq3; have HQ4 := Lib.hid hq4; clear hb1 cf hq3 hq4)
      | (refine wpList_load_mid (by rfl) 28 (.tmp 2) (by rfl) w.heap.size 0 (by rfl) c2 _ HQ3.out Try.underlying28 (by rfl) HQ4.out.sizeL ?_)
      | (refine wpList_store_mid (by rfl) 28 (.tmp 4) (.tmp 18) (by rfl) (w.heap.size + 1) 0 c2.toArray (by rfl) (by rfl) HQ4.out.there HQ4.out.size HQ4.out.one ?_; rw [List.toList_toArray]))
    exact bodyPost_ret (res_ring Try.results8 (by rfl) HQ4.out.range HQ4.out.len) rfl ⟨rfl, HQ4.out.below⟩
  · have ht : Ck.touch l o = l := by unfold Ck.touch; exact List.set_eq_of_length_le (by omega)
    rw [ht]
    have HG : Hid (∀ w', Below wz.heap.size wz w' → w'.rangeAt w.heap.size 0 (ringC l) ∧ RingOut w w' (w.heap.size + 1) (ringC l)) := Lib.hid fun w' hb => ⟨(hb1.below hb (by omega)).range, RingOut.mk' hl (hb2.below hb hlz) (ringC_length (by simp)) (hbw.trans (hb.mono hbw.size)) (by omega)⟩
    unfold findV at cf
    rw [if_neg hp, decide_eq_false hp] at cf
    unfold ringV at cf ⊢
    clear hb1 hb2 hbw hwz hl hlz hp ht
    generalize ringC [] = z0 at *
    generalize ringC l = cs at *
    go_enter Try.func8, Try.ntmps8
    go_upto_region 1 with fail
    rw [← HWZ.out]
    go_wp2_with (first
      | (refine wpList_load_mid (by rfl) 28 (.tmp 2) (by rfl) w.heap.size 0 (by rfl) cs _ HR.out Try.underlying28 (by rfl) HS.out ?_)
      | (go_at_call 20; (with_reducible refine cf.mono ?_); rintro e w1 ⟨rfl, hb1⟩; have HQ := Lib.hid (HG.out w1 hb1); clear hb1 cf)
      | (refine wpList_load_mid (by rfl) 28 (.tmp 2) (by rfl) w.heap.size 0 (by rfl) cs _ HQ.out.1 Try.underlying28 (by rfl) HS.out ?_)
      | (refine wpList_store_mid (by rfl) 28 (.tmp 4) (.tmp 18) (by rfl) (w.heap.size + 1) 0 cs.toArray (by rfl) (by rfl) HQ.out.2.there HQ.out.2.size HQ.out.2.one ?_; rw [List.toList_toArray]))
    exact bodyPost_ret (res_ring Try.results8 (by rfl) HQ.out.2.range HQ.out.2.len) rfl ⟨rfl, HQ.out.2.below⟩
set_option maxHeartbeats 1000000 in
theorem remove_any {l : List Ck.Sit} (hl : l.length ≤ 16) (o : Int) (w : World) : Calls Try.prog 9 #[ringV l, .int .i64 o] w fun e w' => e = .returned (ringV (Ck.remove l o)) ∧ Below w.heap.size w w' := by
  have hz := ring_zero
  obtain ⟨wz, hwz⟩ : ∃ wz, wz = (w.alloc (.cells (ringC l).toArray 28)).alloc (.cells (ringC []).toArray 28) := ⟨_, rfl⟩
  obtain ⟨hb1, hb2, hbw⟩ := two_boxes hwz
  have cf := find_any hl o wz
  have HWZ := Lib.hid hwz
  have hlz := hb2.lt
  have HB0 := Lib.hid hbw
  have HR := Lib.hid hb1.range
  have HS : Hid ((Try.prog.info? 28).map (·.size) = some (ringC l).length) := Lib.hid (by rw [ring_size, ringC_length hl])
  have HR1 : Hid (∀ w', Below wz.heap.size wz w' → w'.rangeAt w.heap.size 0 (ringC l)) := Lib.hid fun w' hb => (hb1.below hb (by omega)).range
  have HG : Hid (∀ w', Below wz.heap.size wz w' → ∀ m : List Ck.Sit, m.length ≤ 16 → RingOut w w' (w.heap.size + 1) (ringC m)) := Lib.hid fun w' hb m hm => RingOut.mk' hm (hb2.below hb hlz) (ringC_length (by simp)) (hbw.trans (hb.mono hbw.size)) (by omega)
  by_cases hp : Ck.pos l o < l.length
  · have cw := fun W => without_any hl hp W
    have hml : (Ck.remove l o).length ≤ 16 := by
      have := List.length_eraseIdx_le l (Ck.pos l o)
      unfold Ck.remove
      omega
    have HML := Lib.hid hml
    unfold findV at cf
    rw [if_pos hp, decide_eq_true hp] at cf
    have HE : Hid (ringV (l.eraseIdx (Ck.pos l o)) = ringV (Ck.remove l o)) := Lib.hid rfl
    rw [show l.eraseIdx (Ck.pos l o) = Ck.remove l o from rfl] at cw
    have HG2 := Lib.hid (fun w' hb => HG.out w' hb _ hml)
    unfold ringV at cf cw ⊢
    clear hb1 hb2 hbw hwz hl hlz hp hml HML HE HG
    generalize ringC (Ck.remove l o) = c2 at *
    generalize ringC [] = z0 at *
    generalize ringC l = cs at *
    generalize Ck.pos l o = k at *
    go_enter Try.func9, Try.ntmps9
    go_upto_region 1 with fail
    rw [← HWZ.out]
    go_wp2_with (first
      | (refine wpList_load_mid (by rfl) 28 (.tmp 2) (by rfl) w.heap.size 0 (by rfl) cs _ HR.out Try.underlying28 (by rfl) HS.out ?_)
      | (go_at_call 20; (with_reducible refine cf.mono ?_); rintro e w1 ⟨rfl, hb1⟩; have HB1 := Lib.hid hb1; have HQ := Lib.hid (HR1.out w1 hb1); clear hb1 cf)
      | (refine wpList_load_mid (by rfl) 28 (.tmp 2) (by rfl) w.heap.size 0 (by rfl) cs _ HQ.out Try.underlying28 (by rfl) HS.out ?_)
      | (go_at_call 21; (with_reducible refine (cw _).mono ?_); rintro e w2 ⟨rfl, hb2⟩; have HQ2 := Lib.hid (HG2.out w2 (HB1.out.trans (hb2.mono HB1.out.size))); clear hb2)
      | (refine wpList_store_mid (by rfl) 28 (.tmp 4) (.tmp 16) (by rfl) (w.heap.size + 1) 0 c2.toArray (by rfl) (by rfl) HQ2.out.there HQ2.out.size HQ2.out.one ?_; rw [List.toList_toArray]))
    exact bodyPost_ret (res_ring Try.results9 (by rfl) HQ2.out.range HQ2.out.len) rfl ⟨rfl, HQ2.out.below⟩
  · have ht : Ck.remove l o = l := by unfold Ck.remove; exact List.eraseIdx_of_length_le (by omega)
    rw [ht]
    unfold findV at cf
    rw [if_neg hp, decide_eq_false hp] at cf
    have HG2 := Lib.hid (fun w' hb => HG.out w' hb _ hl)
    unfold ringV at cf ⊢
    clear hb1 hb2 hbw hwz hl hlz hp ht HG
    generalize ringC [] = z0 at *
    generalize ringC l = cs at *
    go_enter Try.func9, Try.ntmps9
    go_upto_region 1 with fail
    rw [← HWZ.out]
    go_wp2_with (first
      | (refine wpList_load_mid (by rfl) 28 (.tmp 2) (by rfl) w.heap.size 0 (by rfl) cs _ HR.out Try.underlying28 (by rfl) HS.out ?_)
      | (go_at_call 20; (with_reducible refine cf.mono ?_); rintro e w1 ⟨rfl, hb1⟩; have HQ1 := Lib.hid (HR1.out w1 hb1); have HQ := Lib.hid (HG2.out w1 hb1); clear hb1 cf)
      | (refine wpList_load_mid (by rfl) 28 (.tmp 2) (by rfl) w.heap.size 0 (by rfl) cs _ HQ1.out Try.underlying28 (by rfl) HS.out ?_)
      | (refine wpList_store_mid (by rfl) 28 (.tmp 4) (.tmp 17) (by rfl) (w.heap.size + 1) 0 cs.toArray (by rfl) (by rfl) HQ.out.there HQ.out.size HQ.out.one ?_; rw [List.toList_toArray]))
    exact bodyPost_ret (res_ring Try.results9 (by rfl) HQ.out.range HQ.out.len) rfl ⟨rfl, HQ.out.below⟩
end Go.Proofs.Ytlhkcfhhgcmieaa
