/-
  The program's Within, Same, After; read.
-/
import Derived.Test.YtgnncbbfbhipaaaCrashPages
import Derived.Test.YtgnncbbfbhipaaaFlashCopy
import Derived.Test.YtgnncbbfbhipaaaFlashCrash
import Derived.Deep.RegionHeld3
import Derived.Deep.RegionLaw
namespace Go.Proofs.Ytgnncbbfbhipaaa
open Go.ChangeShapes Go.WideShapes Go.ChangeAt Go.RowKit Fl
set_option maxRecDepth 100000

section
variable {k ka S P B db mb : Nat} {w : World} {v va : Nat → Nat} {M L : List Pg}
/-- what a page has that there is -/
def PageTo (B : Nat) (L : List Pg) (s p : Int) (w : World) (e : Ending) (w' : World) : Prop :=
  ∃ g, e = .returned (.slice (some ⟨g, 0, none⟩) B B) ∧ w.heap.size ≤ g ∧ Row 5 w' g (full B ((lk L s p).getD [])) ∧ Below w.heap.size w w'
theorem page_any (h : Dev w v k S P B db mb L) (s p : Int) (hs : W64 s) (hp : W64 p) (hin : 0 ≤ s ∧ s < S ∧ 0 ≤ p ∧ p < P) :
    Calls Try.prog 42 #[.pointer (some ⟨db, 0, none⟩), .agg #[.int .i64 s, .int .i64 p]] w (PageTo B L s p w) := by
  have hbx := below_new4 w (.cells #[.int .i64 s, .int .i64 p] 44)
  have cr := read_in (h.below hbx) s p hs hp hin
  obtain ⟨-, t0, t1⟩ := Two.new w (.int .i64 s) (.int .i64 p) 44
  have HBX := Lib.hid hbx
  clear h hs hp hin hbx
  unfold PageTo
  go_enter Try.func42, Try.ntmps42
  go_wp2_with (go_at_call 40; (with_reducible refine cr.mono ?_); rintro e w2 ⟨g, rfl, hg, hrow, hb2⟩; have HR := Lib.hid hrow; have HB := Lib.hid (HBX.out.trans (hb2.mono HBX.out.size)); have HG : Hid (w.heap.size ≤ g) := Lib.hid (Nat.le_trans HBX.out.size hg); clear hrow hb2 hg cr)
  go_ret
  exact ⟨g, rfl, HG.out, HR.out, HB.out⟩
set_option maxHeartbeats 8000000 in
theorem within_prog (ha : Dev w va ka S P B db mb M) {dc mc : Nat} {N : List Pg} (hc : Dev w v k S P B dc mc N) :
    Calls Try.prog 18 #[.pointer (some ⟨db, 0, none⟩), .pointer (some ⟨dc, 0, none⟩)] w fun e w' => e = .returned (.bool (withinB B M N)) ∧ Below w.heap.size w w' := by
  have HA := Lib.hid ha
  have HC := Lib.hid hc
  have cs := shape_any ha
  have hS2 := ha.shp.s2
  have hP2 := ha.shp.p2
  have hB2 := ha.shp.b2
  have hB1 := ha.shp.b1
  have HOK := Lib.hid ha.ok
  have HALL := Lib.hid (withinB_pgs (N := N) ha.ok)
  clear ha hc
  go_enter Try.func18, Try.ntmps18
  go_wp2_with (first
    | (go_at_call 37; (with_reducible refine cs.mono ?_); rintro e w1 ⟨rfl, hb1⟩; have HB1 := Lib.hid hb1; have cs2 := shape_any (HC.out.below hb1); clear hb1 cs)
    | (go_at_call 37; (with_reducible refine cs2.mono ?_); rintro e w2 ⟨rfl, hb2⟩; have HB2 := Lib.hid (HB1.out.trans (hb2.mono HB1.out.size)); have cp := pages_any (HA.out.below HB2.out); clear hb2 cs2)
    | (go_at_call 13; (with_reducible refine cp.mono ?_); rintro e w3 ⟨u, rfl, ho3, hb3⟩; have HB3 := Lib.hid (HB2.out.trans (hb3.mono HB2.out.size)); have HO3 := Lib.hid (own_base ho3 (Nat.zero_le _)); obtain ⟨A9, c9, rfl⟩ := own_slice2 ho3; clear ho3 hb3 cp))
  have HIN := Lib.hid (fun a (h : a ∈ pgs M P S) => pgs_lk h)
  have hnl : (pgs M P S).length ≤ 1024 := by
    have h1 := pgs_le M P S
    have h2 : S * P ≤ 16 * 64 := Nat.mul_le_mul hS2 hP2
    omega
  generalize pgs M P S = R at *
  obtain ⟨n, hn⟩ : ∃ n, n = R.length := ⟨_, rfl⟩
  rw [← hn] at HO3 hnl ⊢
  have HN := Lib.hid hn
  clear hn
  go_loopw [6, 15] (fun _ i wr => ∃ j : Nat, j ≤ n ∧ i = .int .i64 j ∧ Hid ((R.take j).all (wat B M N) = true) ∧ Hid (Below w3.heap.size w3 wr)) (fun _ i _ => n - (intOf i).toNat)
  case atStart => exact ⟨0, Nat.zero_le _, rfl, Lib.hid (by simp), Lib.hid (Below.refl _ _)⟩
  case round =>
    obtain ⟨j, hj, rfl, HT, HB⟩ := hrel
    by_cases hlt : j < n
    · rcases own_form HO3.out with ⟨_, _, h0⟩ | ⟨g, c', he, hgl, _⟩
      · omega
      injection he with he _ he2
      subst he he2
      have hjR : j < R.length := by rw [← HN.out]; exact hlt
      obtain ⟨q1, q2⟩ := duos_get R j hjR
      have e1 := (HO3.out.cellAt (j * 2) (by omega)).trans q1
      have e2 := (HO3.out.cellAt (j * 2 + 1) (by omega)).trans q2
      have d0 := (HB.out.cell (p := ⟨g, j * 2, none⟩) hgl).trans e1
      have d1 := (HB.out.cell (p := ⟨g, j * 2 + 1, none⟩) hgl).trans e2
      have hin := HIN.out _ (List.getElem_mem hjR)
      have HNX : Hid ((R.take (j + 1)).all (wat B M N) = ((R.take j).all (wat B M N) && wat B M N R[j])) := Lib.hid (by rw [List.take_succ_eq_append_getElem hjR, List.all_append]; simp)
      have HNO : Hid (wat B M N R[j] = false → withinB B M N = false) := Lib.hid fun h => by
        rw [← HALL.out, List.all_eq_false]
        exact ⟨_, List.getElem_mem hjR, by simp [h]⟩
      obtain ⟨⟨s0, p0⟩, hq⟩ : ∃ y, y = R[j] := ⟨_, rfl⟩
      rw [← hq] at d0 d1 hin HNX HNO
      clear e1 e2 q1 q2 hq hjR
      dsimp only at d0 d1 hin
      obtain ⟨hls, hs0, hs1, hp0, hp1⟩ := hin
      have hw0 : W64 s0 := WalkArith.wf_i64 (by omega)
      have hw1 : W64 p0 := WalkArith.wf_i64 (by omega)
      have HW0 := Lib.hid hw0
      have HW1 := Lib.hid hw1
      have hbx := below_new4 wr (.cells #[.int .i64 s0, .int .i64 p0] 44)
      have HBX := Lib.hid (HB.out.trans (hbx.mono HB.out.size))
      have HBD := Lib.hid HBX.out.drew
      have HBW := Lib.hid (HB3.out.trans (HBX.out.mono HB3.out.size))
      have TW := Lib.hid (Two.new wr (.int .i64 s0) (.int .i64 p0) 44)
      obtain ⟨-, t0, t1⟩ := TW.out
      have cu := used_any ((HC.out.below HBW.out).below (Below.refl _ _).drew) s0 p0 hw0 hw1
      have HP0 : Hid ((wr.alloc (.cells #[.int .i64 s0, .int .i64 p0] 44)).drew.cell? ⟨wr.heap.size, 0, none⟩ = some (.int .i64 s0) ∧ (wr.alloc (.cells #[.int .i64 s0, .int .i64 p0] 44)).drew.cell? ⟨wr.heap.size, 1, none⟩ = some (.int .i64 p0)) := Lib.hid ⟨t0, t1⟩
      have HPB : Hid (∀ W, Below (wr.alloc (.cells #[.int .i64 s0, .int .i64 p0] 44)).drew.heap.size (wr.alloc (.cells #[.int .i64 s0, .int .i64 p0] 44)).drew W → W.cell? ⟨wr.heap.size, 0, none⟩ = some (.int .i64 s0) ∧ W.cell? ⟨wr.heap.size, 1, none⟩ = some (.int .i64 p0)) := Lib.hid fun W hb => by
        obtain ⟨-, x0, x1⟩ := TW.out.below (w' := W) ⟨hb.os, hb.tape, hb.output, hb.size, hb.block⟩
        exact ⟨x0, x1⟩
      have HRG : Hid (0 ≤ s0 ∧ s0 < S ∧ 0 ≤ p0 ∧ p0 < P) := Lib.hid ⟨hs0, hs1, hp0, hp1⟩
      clear hw0 hw1 hs0 hs1 hp0 hp1 hbx
      cases hlk : lk N s0 p0 with
      | none =>
        have HQ : Hid (withinB B M N = false) := Lib.hid (HNO.out (by unfold wat; rw [hlk]))
        rw [hlk] at cu
        clear hlk hls
        go_wp2
        refine wp_region_held_drew (S := (fun W => W.cell? ⟨wr.heap.size, 0, none⟩ = some (.int .i64 s0) ∧ W.cell? ⟨wr.heap.size, 1, none⟩ = some (.int .i64 p0))) (by kernel_rfl) HP0.out (fun hHeld => ?_)
        refine wpAnyH_take (i := 0) (v := ?_) (List.getElem?_toArray.trans rfl) (by kernel_rfl) (by kernel_rfl) (by kernel_rfl) (fun _ _ _ h => h) (Or.inl ⟨by rfl, ?_⟩) (by assumption) ?_
        case refine_2 => (intro w hSw; (try dsimp only at hSw); go_simp <;> with_reducible rfl)
        simp only [Act.put, List.setIfInBounds_toArray, List.set_cons_zero, List.set_cons_succ]
        refine wpAnyH_take (i := 1) (v := ?_) (List.getElem?_toArray.trans rfl) (by kernel_rfl) (by kernel_rfl) (by kernel_rfl) (fun _ _ _ h => h) (Or.inl ⟨by rfl, ?_⟩) (by assumption) ?_
        case refine_2 => (intro w hSw; (try dsimp only at hSw); go_simp <;> with_reducible rfl)
        simp only [Act.put, List.setIfInBounds_toArray, List.set_cons_zero, List.set_cons_succ]
        refine wpAnyH_take (i := 2) (v := ?_) (List.getElem?_toArray.trans rfl) (by kernel_rfl) (by kernel_rfl) (by kernel_rfl) (fun _ _ _ h => h) (Or.inl ⟨by rfl, ?_⟩) (by assumption) ?_
        case refine_2 => (intro w hSw; (try dsimp only at hSw); go_simp <;> with_reducible rfl)
        simp only [Act.put, List.setIfInBounds_toArray, List.set_cons_zero, List.set_cons_succ]
        refine wpAnyH_take (i := 3) (v := ?_) (List.getElem?_toArray.trans rfl) (by kernel_rfl) (by kernel_rfl) (by kernel_rfl) (fun _ _ _ h => h) (Or.inl ⟨by rfl, ?_⟩) (by assumption) ?_
        case refine_2 => (intro w hSw; (try dsimp only at hSw); go_simp <;> with_reducible rfl)
        simp only [Act.put, List.setIfInBounds_toArray, List.set_cons_zero, List.set_cons_succ]
        refine wpAnyH_take (i := 4) (v := ?_) (List.getElem?_toArray.trans rfl) (by kernel_rfl) (by kernel_rfl) (by kernel_rfl) (fun _ _ _ h => h) (Or.inl ⟨by rfl, ?_⟩) (by assumption) ?_
        case refine_2 => (intro w hSw; (try dsimp only at hSw); go_simp <;> with_reducible rfl)
        simp only [Act.put, List.setIfInBounds_toArray, List.set_cons_zero, List.set_cons_succ]
        refine wpAnyH_ready (rs := [5]) (by kernel_rfl) (by simp) ?_
        refine AllReadyH.cons (List.getElem?_toArray.trans rfl) (fun K hK => ?_) AllReadyH.nil
        go_simp
        go_at_call 38; (with_reducible refine cu.mono ?_); rintro e w5 ⟨rfl, hb5⟩; have HB5 := Lib.hid (HBD.out.trans (hb5.mono HBD.out.size)); have hP := HPB.out _ hb5; clear hb5 cu
        refine hK.out _ _ hP (fun hHeld => ?_)
        clear hK K
        refine wpAnyH_take (i := 6) (v := ?_) (List.getElem?_toArray.trans rfl) (by kernel_rfl) (by kernel_rfl) (by kernel_rfl) (fun _ _ _ h => h) (Or.inl ⟨by rfl, ?_⟩) (by assumption) ?_
        case refine_2 => (intro w hSw; (try dsimp only at hSw); go_simp <;> with_reducible rfl)
        simp only [Act.put, List.setIfInBounds_toArray, List.set_cons_zero, List.set_cons_succ]
        refine wpAnyH_take (i := 7) (v := ?_) (List.getElem?_toArray.trans rfl) (by kernel_rfl) (by kernel_rfl) (by kernel_rfl) (fun _ _ _ h => h) (Or.inl ⟨by rfl, ?_⟩) (by assumption) ?_
        case refine_2 => (intro w hSw; (try dsimp only at hSw); go_simp <;> with_reducible rfl)
        simp only [Act.put, List.setIfInBounds_toArray, List.set_cons_zero, List.set_cons_succ]
        refine wpAnyH_take (i := 8) (v := undef) (List.getElem?_toArray.trans rfl) (by kernel_rfl) (by kernel_rfl) (by kernel_rfl) (fun _ _ _ h => h) (Or.inr ⟨by rfl, rfl⟩) (by assumption) ?_
        simp only [Act.put, List.setIfInBounds_toArray, List.set_cons_zero, List.set_cons_succ]
        refine wpAnyH_take (i := 9) (v := undef) (List.getElem?_toArray.trans rfl) (by kernel_rfl) (by kernel_rfl) (by kernel_rfl) (fun _ _ _ h => h) (Or.inr ⟨by rfl, rfl⟩) (by assumption) ?_
        simp only [Act.put, List.setIfInBounds_toArray, List.set_cons_zero, List.set_cons_succ]
        refine wpAnyH_take (i := 10) (v := undef) (List.getElem?_toArray.trans rfl) (by kernel_rfl) (by kernel_rfl) (by kernel_rfl) (fun _ _ _ h => h) (Or.inr ⟨by rfl, rfl⟩) (by assumption) ?_
        simp only [Act.put, List.setIfInBounds_toArray, List.set_cons_zero, List.set_cons_succ]
        refine wpAnyH_take (i := 11) (v := undef) (List.getElem?_toArray.trans rfl) (by kernel_rfl) (by kernel_rfl) (by kernel_rfl) (fun _ _ _ h => h) (Or.inr ⟨by rfl, rfl⟩) (by assumption) ?_
        simp only [Act.put, List.setIfInBounds_toArray, List.set_cons_zero, List.set_cons_succ]
        refine wpAnyH_take (i := 12) (v := undef) (List.getElem?_toArray.trans rfl) (by kernel_rfl) (by kernel_rfl) (by kernel_rfl) (fun _ _ _ h => h) (Or.inr ⟨by rfl, rfl⟩) (by assumption) ?_
        simp only [Act.put, List.setIfInBounds_toArray, List.set_cons_zero, List.set_cons_succ]
        refine wpAnyH_take (i := 13) (v := undef) (List.getElem?_toArray.trans rfl) (by kernel_rfl) (by kernel_rfl) (by kernel_rfl) (fun _ _ _ h => h) (Or.inr ⟨by rfl, rfl⟩) (by assumption) ?_
        simp only [Act.put, List.setIfInBounds_toArray, List.set_cons_zero, List.set_cons_succ]
        refine wpAnyH_take (i := 14) (v := undef) (List.getElem?_toArray.trans rfl) (by kernel_rfl) (by kernel_rfl) (by kernel_rfl) (fun _ _ _ h => h) (Or.inr ⟨by rfl, rfl⟩) (by assumption) ?_
        simp only [Act.put, List.setIfInBounds_toArray, List.set_cons_zero, List.set_cons_succ]
        refine wpAnyH_take (i := 15) (v := undef) (List.getElem?_toArray.trans rfl) (by kernel_rfl) (by kernel_rfl) (by kernel_rfl) (fun _ _ _ h => h) (Or.inr ⟨by rfl, rfl⟩) (by assumption) ?_
        simp only [Act.put, List.setIfInBounds_toArray, List.set_cons_zero, List.set_cons_succ]
        refine wpAnyH_take (i := 16) (v := ?_) (List.getElem?_toArray.trans rfl) (by kernel_rfl) (by kernel_rfl) (by kernel_rfl) (fun _ _ _ h => h) (Or.inl ⟨by rfl, ?_⟩) (by assumption) ?_
        case refine_2 => (intro w hSw; (try dsimp only at hSw); go_simp <;> with_reducible rfl)
        simp only [Act.put, List.setIfInBounds_toArray, List.set_cons_zero, List.set_cons_succ]
        refine wpAnyH_done (by kernel_rfl) ?_ _
        go_wp2
        go_ret
        exact ⟨by rw [HQ.out]; rfl, HB3.out.trans (HB5.out.mono HB3.out.size)⟩
      | some r =>
        rw [hlk] at cu
        have HWAT : Hid (wat B M N (s0, p0) = lft (full B ((lk M s0 p0).getD [])) (full B r)) := Lib.hid (by unfold wat; rw [hlk])
        have HGET : Hid ((lk N s0 p0).getD [] = r) := Lib.hid (by rw [hlk]; rfl)
        clear hlk hls
        obtain ⟨z, hz⟩ : ∃ z, z = lft (full B ((lk M s0 p0).getD [])) (full B r) := ⟨_, rfl⟩
        have HZ := Lib.hid hz
        rw [← hz] at HWAT
        clear hz
        cases z
        all_goals
          go_wp2
          go_region_held3 (fun W => W.cell? ⟨wr.heap.size, 0, none⟩ = some (.int .i64 s0) ∧ W.cell? ⟨wr.heap.size, 1, none⟩ = some (.int .i64 p0))
            (first | exact HP0.out | exact HP5.out | exact HP6.out | exact HP7.out)
            ((first
              | (go_at_call 38; (with_reducible refine cu.mono ?_); rintro e w5 ⟨rfl, hb5⟩; have HB5 := Lib.hid (HBD.out.trans (hb5.mono HBD.out.size)); have HD5 := Lib.hid hb5; have HP5 := Lib.hid (HPB.out _ hb5); have cr1 := page_any (HA.out.below (HB3.out.trans (HB5.out.mono HB3.out.size))) s0 p0 HW0.out HW1.out HRG.out; clear hb5 cu)
              | (go_at_call 42; (with_reducible refine cr1.mono ?_); rintro e w6 ⟨g6, rfl, hg6, hrow6, hb6⟩; have HB6 := Lib.hid (HB5.out.trans (hb6.mono HB5.out.size)); have HD6 := Lib.hid (HD5.out.trans (hb6.mono HD5.out.size)); have HP6 := Lib.hid (HPB.out _ HD6.out); have HR6 := Lib.hid hrow6; have HL6 := Lib.hid hrow6.lt; have cr2 := page_any (HC.out.below (HB3.out.trans (HB6.out.mono HB3.out.size))) s0 p0 HW0.out HW1.out HRG.out; clear hb6 hrow6 hg6 cr1)
              | (go_at_call 42; (with_reducible refine cr2.mono ?_); rintro e w7 ⟨g7, rfl, hg7, hrow7, hb7⟩; have HB7 := Lib.hid (HB6.out.trans (hb7.mono HB6.out.size)); have HP7 := Lib.hid (HPB.out _ (HD6.out.trans (hb7.mono HD6.out.size))); have hr6 := (HR6.out.below hb7 HL6.out).bs (B := w7.heap.size) (Nat.lt_of_lt_of_le HL6.out hb7.size); have hr7 := hrow7.bs (B := w7.heap.size) hrow7.lt; rw [full_length] at hr6 hr7; rw [HGET.out] at hr7; have cl := left_any hr6 (Nat.le_refl _) hr7 (Nat.le_refl _) (by omega); rw [← HZ.out] at cl; clear hb7 hrow7 hg7 cr2 hr6 hr7)
              | (go_at_call 41; (with_reducible refine cl.mono ?_); rintro e w8 ⟨rfl, rfl⟩; clear cl)))
        · go_wp2
          go_ret
          exact ⟨by rw [HNO.out HWAT.out]; rfl, HB3.out.trans (HB7.out.mono HB3.out.size)⟩
        · go_wp2
          go_roundw
          case rel => exact ⟨j + 1, by omega, by go_num, Lib.hid (by rw [HNX.out, HT.out, HWAT.out]; rfl), HB7⟩
          case measure => simp [intOf]; omega
    · obtain rfl : j = n := by omega
      have HQ : Hid (withinB B M N = true) := Lib.hid (by have h := HT.out; rw [HN.out, List.take_length] at h; rw [← HALL.out]; exact h)
      go_wp2
      go_ret
      exact ⟨by rw [HQ.out]; rfl, HB3.out.trans (HB.out.mono HB3.out.size)⟩
set_option maxHeartbeats 2000000 in
theorem same_prog (ha : Dev w va ka S P B db mb M) {dc mc : Nat} {N : List Pg} (hc : Dev w v k S P B dc mc N) :
    Calls Try.prog 19 #[.pointer (some ⟨db, 0, none⟩), .pointer (some ⟨dc, 0, none⟩)] w fun e w' => e = .returned (.bool (withinB B M N && withinB B N M)) ∧ Below w.heap.size w w' := by
  have c1 := within_prog ha hc
  have c2 := fun W (hb : Below w.heap.size w W) => within_prog (hc.below hb) (ha.below hb)
  clear ha hc
  generalize withinB B M N = x at *
  generalize withinB B N M = y at *
  cases x
  · go_enter Try.func19, Try.ntmps19
    go_wp2_with (go_at_call 18; (with_reducible refine c1.mono ?_); rintro e w1 ⟨rfl, hb1⟩)
    go_ret
    exact ⟨rfl, hb1⟩
  · go_enter Try.func19, Try.ntmps19
    go_wp2_with (first
      | (go_at_call 18; (with_reducible refine c1.mono ?_); rintro e w1 ⟨rfl, hb1⟩; have c3 := c2 _ hb1; clear c1 c2)
      | (go_at_call 18; (with_reducible refine c3.mono ?_); rintro e w2 ⟨rfl, hb2⟩))
    go_ret
    exact ⟨rfl, hb1.trans (hb2.mono hb1.size)⟩
theorem within_nil (w : World) : Calls Try.prog 18 #[.pointer none, .pointer none] w fun e w' => e = .returned (.bool true) ∧ Below w.heap.size w w' := by
  have cs := shape_nil w
  go_enter Try.func18, Try.ntmps18
  go_wp2_with (first
    | (go_at_call 37; (with_reducible refine cs.mono ?_); rintro e w1 ⟨rfl, hb1⟩; have HB1 := Lib.hid hb1; have cs2 := shape_nil w1; clear hb1 cs)
    | (go_at_call 37; (with_reducible refine cs2.mono ?_); rintro e w2 ⟨rfl, hb2⟩; have HB2 := Lib.hid (HB1.out.trans (hb2.mono HB1.out.size)); have cp := pages_nil w2; clear hb2 cs2)
    | (go_at_call 13; (with_reducible refine cp.mono ?_); rintro e w3 ⟨rfl, hb3⟩; have HB3 := Lib.hid (HB2.out.trans (hb3.mono HB2.out.size)); clear hb3 cp))
  go_loopw [6, 15] (fun _ i wr => i = .int .i64 0 ∧ wr = w3) (fun _ _ _ => 0)
  case atStart => exact ⟨rfl, rfl⟩
  case round =>
    obtain ⟨rfl, rfl⟩ := hrel
    go_wp2
    go_ret
    exact ⟨rfl, HB3.out⟩
theorem same_nil (w : World) : Calls Try.prog 19 #[.pointer none, .pointer none] w fun e w' => e = .returned (.bool true) ∧ Below w.heap.size w w' := by
  have c1 := within_nil w
  have c2 := fun W => within_nil W
  go_enter Try.func19, Try.ntmps19
  go_wp2_with (first
    | (go_at_call 18; (with_reducible refine c1.mono ?_); rintro e w1 ⟨rfl, hb1⟩; have c3 := c2 w1; clear c1 c2)
    | (go_at_call 18; (with_reducible refine c3.mono ?_); rintro e w2 ⟨rfl, hb2⟩))
  go_ret
  exact ⟨rfl, hb1.trans (hb2.mono hb1.size)⟩
/-- two colours are enough -/
def two (v : Nat → Nat) : Nat → Nat := fun i => if v i = 0 then 0 else 1
theorem Dt.two {x : Value} {l : List UInt8} (h : Dt w v x l) : Dt w (two v) x l := by
  obtain ⟨A, c, e, h1, h2, h3, h4⟩ := h
  exact ⟨A, c, e, h1, h2, h3, fun h0 a ha => by unfold Go.Proofs.Ytgnncbbfbhipaaa.two; rw [h4 h0 a ha]; rfl⟩
theorem Dev.two (h : Dev w v k S P B db mb L) (hk : k ≠ 0) : Dev w (two v) 1 S P B db mb L := by
  have ht : ∀ {i}, v i = k → Go.Proofs.Ytgnncbbfbhipaaa.two v i = 1 := fun {i} e => by unfold Go.Proofs.Ytgnncbbfbhipaaa.two; rw [e, if_neg hk]
  obtain ⟨u, h1, h2, h3⟩ := h.cells
  obtain ⟨f, m1, m2⟩ := h.map
  refine ⟨h.shp, h.ok, fun i hi => by unfold Go.Proofs.Ytgnncbbfbhipaaa.two; rw [h.fr i hi]; rfl, ht h.vd, ht h.vm, h.ne, ⟨u, h1, h2, fun g hg => ⟨ht (h3 g hg).1, (h3 g hg).2⟩⟩, f, m1, fun s p => ?_⟩
  rcases m2 s p with e | ⟨r, x, e1, e2, e3⟩
  · exact .inl e
  · exact .inr ⟨r, x, e1, e2, e3.two⟩
theorem Rdv.two {xb : Nat} (h : Rdv w v k S P B xb L) (hk : k ≠ 0) : Rdv w (two v) 1 S P B xb L := by
  have ht : ∀ {i}, v i = k → Go.Proofs.Ytgnncbbfbhipaaa.two v i = 1 := fun {i} e => by unfold Go.Proofs.Ytgnncbbfbhipaaa.two; rw [e, if_neg hk]
  obtain ⟨u, Q, h1, h2, h3, h4, h5⟩ := h.cells
  exact ⟨h.shp, h.ok, fun i hi => by unfold Go.Proofs.Ytgnncbbfbhipaaa.two; rw [h.fr i hi]; rfl, ht h.vx, ⟨u, Q, h1, h2, h3, fun g hg => ⟨ht (h4 g hg).1, (h4 g hg).2⟩, fun q hq => (h5 q hq).two⟩⟩
theorem two_le (v : Nat → Nat) (i : Nat) : two v i ≠ 2 := by unfold two; split <;> omega
/-- a device behind a crash, the first one as it was -/
def AfterTo (S P B K : Nat) (t u : Int) (L : List Pg) (w : World) (e : Ending) (w' : World) : Prop :=
  ∃ cb cm v', e = .returned (.pointer (some ⟨cb, 0, none⟩)) ∧ Dev w' v' 2 S P B cb cm (crash (keep B K t u) 0 L) ∧ Below w.heap.size w w'
set_option maxHeartbeats 2000000 in
theorem after_any (h : Dev w v k S P B db mb L) (hk : k ≠ 0) (K : Nat) (t u : Int) (hK : K < 18446744073709551616) (hL : L.length ≤ 100000) :
    Calls Try.prog 10 #[.pointer (some ⟨db, 0, none⟩), .agg #[.int .u64 K, .int .i64 t, .int .i64 u]] w (AfterTo S P B K t u L w) := by
  have hbx := below_new4 w (.cells #[.int .u64 K, .int .i64 t, .int .i64 u] 27)
  have T3 := Lib.hid (Three.new w (.int .u64 K) (.int .i64 t) (.int .i64 u) 27)
  have cc := copy_any (k2 := 2) ((h.two hk).below hbx) hL (by omega)
  have HBX := Lib.hid hbx
  have HK := Lib.hid hK
  clear h hk hbx hK
  unfold AfterTo
  go_enter Try.func10, Try.ntmps10
  go_wp2_with (first
    | (go_at_call 35; (with_reducible refine cc.mono ?_); rintro e w1 ⟨cb, cm, v1, rfl, hd1, hs1, hb1⟩; have HB1 := Lib.hid (HBX.out.trans (hb1.mono HBX.out.size)); have HV : Hid (∀ i, i < w.heap.size → v1 i ≠ 2) := Lib.hid (fun i hi => by rw [(hs1 1).same i (Nat.lt_of_lt_of_le hi HBX.out.size)]; exact two_le _ _); obtain ⟨-, t0, t1, t2, -⟩ := T3.out.below hb1; have cx := crash_any hd1 (by omega) K t u HK.out hL; clear hd1 hs1 hb1 cc)
    | (go_at_call 32; (with_reducible refine cx.mono ?_); rintro e w2 ⟨rfl, hd2, hs2⟩; have HD2 := Lib.hid hd2; have HB2 := Lib.hid (HB1.out.trans (hs2.toBelow HB1.out.size HV.out)); clear hd2 hs2 cx))
  go_ret
  exact ⟨cb, cm, v1, rfl, HD2.out, HB2.out⟩
end
end Go.Proofs.Ytgnncbbfbhipaaa
