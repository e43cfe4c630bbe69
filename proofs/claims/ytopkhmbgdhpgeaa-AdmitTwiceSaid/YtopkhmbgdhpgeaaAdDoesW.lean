/-
  The walk of AdmitDoes, by DoorPrg.
-/
import Derived.Test.YtopkhmbgdhpgeaaAdAwake
namespace Go.Proofs.Ytopkhmbgdhpgeaa
open Go.ChangeShapes Go.WideShapes Go.ChangeAt Go.RowKit
set_option maxRecDepth 100000

set_option maxHeartbeats 8000000 in
theorem admitDoes_any {D : Ad.St → List Value} {z : Nat} (P : DoorPrg D z) (A : Option Addr) (n c0 : Nat) (L : List Int) (o len most : Int) (w : World) (h : Vs w w.heap.size A n (nums .i64 L)) :
    Calls Try.prog 3 #[.slice A n c0, .int .i64 o, .int .i64 len, .int .i64 most] w fun e w' => e = .returned (.bool true) ∧ Below w.heap.size w w' := by
  have ka := awake_any P w
  by_cases hn : 200 < n
  · have d1 : decide ((200 : Int) < (n : Int)) = true := decide_eq_true (by omega)
    clear h P
    go_enter Try.func3, Try.ntmps3
    go_wp2_with (go_at_call 5; (with_reducible refine ka.mono ?_); rintro e w1 ⟨rfl, hb1⟩; have HB1 := Lib.hid hb1; clear hb1)
    go_ret
    exact ⟨rfl, HB1.out⟩
  have d1 : decide ((200 : Int) < (n : Int)) = false := decide_eq_false (by omega)
  have HL := Lib.hid h
  obtain ⟨Z, hZ, hz⟩ := P.zero
  have hza := arr_zero
  have kn := P.new
  have HP := Lib.hid P
  have HN : Hid (n ≤ 200 ∧ L.length = n) := Lib.hid ⟨by omega, by have := h.1; rwa [nums_length] at this⟩
  have HV0 : Hid (∀ W, Below w.heap.size w W → (W.alloc (.cells Z.toArray 26)).there W.heap.size 0 (D Ad.zero).toArray.size ∧ DrIn D w ((W.alloc (.cells Z.toArray 26)).setCells W.heap.size 0 (D Ad.zero)) W.heap.size Ad.zero) := Lib.hid fun W hb => by
    have h9 := DrIn.var P hZ hb (Ad.Ok.zero 0).len
    exact ⟨h9.1, h9.2.1⟩
  have HS0 := Lib.hid (DrSz.of P (Ad.Ok.zero 0).len)
  have HARR : Hid (∀ W b, DrIn D w W b Ad.zero → AdIn D w (W.alloc (.cells (nums .i64 (List.replicate 16 0)).toArray 24)) b W.heap.size Ad.zero Ad.zero.s) := Lib.hid fun W b hd =>
    ⟨hd.on ((Below.refl _ _).alloc (Nat.le_refl _) _), by simp [Ad.zero], Bx.new W _ _, hd.below.size, Nat.ne_of_lt hd.box.lt⟩
  clear h P hZ hn
  generalize nums .i64 (List.replicate 16 0) = zs at *
  go_enter Try.func3, Try.ntmps3
  go_wp2_with (first
    | (go_at_call 5; (with_reducible refine ka.mono ?_); rintro e w1 ⟨rfl, hb1⟩; have HB1 := Lib.hid hb1; clear hb1 ka)
    | (go_at_call 6; (with_reducible refine (kn _).mono ?_); rintro e w2 ⟨rfl, hb2⟩; have HB2 := Lib.hid (HB1.out.trans (hb2.mono HB1.out.size)); have HV2 := Lib.hid (HV0.out w2 HB2.out); obtain ⟨b, hb⟩ : ∃ b, b = w2.heap.size := ⟨_, rfl⟩; have HBB := Lib.hid hb; obtain ⟨w3, hw3⟩ : ∃ w3, w3 = (w2.alloc (.cells Z.toArray 26)).setCells b 0 (D Ad.zero) := ⟨_, rfl⟩; have HW3 := Lib.hid hw3; clear hb hb2 kn hw3)
    | (refine wpList_store_mid (by rfl) 26 (.tmp 9) (.tmp 22) (by rfl) w2.heap.size 0 (D Ad.zero).toArray (by rfl) (by rfl) HV2.out.1 HS0.out.size HS0.out.one ?_; rw [List.toList_toArray, ← HBB.out, ← HW3.out]))
  obtain ⟨wq, hwq⟩ : ∃ wq, wq = w3.alloc (.cells zs.toArray 24) := ⟨_, rfl⟩
  obtain ⟨c, hc⟩ : ∃ c, c = w3.heap.size := ⟨_, rfl⟩
  rw [← hwq, ← hc]
  have HA : Hid (AdIn D w wq b c (Ad.notes (L.take 0)) (Ad.notes (L.take 0)).s) := Lib.hid (by
    have h9 := HV2.out.2
    rw [← HBB.out, ← HW3.out] at h9
    have h8 := HARR.out _ _ h9
    rw [← hwq, ← hc] at h8
    exact h8)
  clear HV2 HV0 HS0 HB1 HB2 HBB HW3 hwq hc HARR hza hz
  --NOTES
  go_loopw [11, 25] (fun v i wr => ∃ k : Nat, k ≤ n ∧ i = .int .i64 k ∧ v = .int .i64 (Ad.notes (L.take k)).n ∧ Hid (AdIn D w wr b c (Ad.notes (L.take k)) (Ad.notes (L.take k)).s)) (fun _ i _ => n - (intOf i).toNat)
  case atStart => exact ⟨0, by omega, rfl, rfl, HA⟩
  case round =>
    clear HA
    obtain ⟨k, hk, rfl, rfl, HA⟩ := hrel
    have hn20 := HN.out.1
    have hok : Ad.Ok 200 (Ad.notes (L.take k)) := (Ad.Ok.notes (L.take k)).mono (by rw [List.length_take]; omega)
    by_cases hlt : k < n
    · obtain ⟨g, off, x, rfl, hgB, e1, hx⟩ := nums_at HL.out hlt
      have e1 : wr.cell? ⟨g, off + k, none⟩ = some (.int .i64 x) := (HA.out.door.below.cell (p := ⟨g, off + k, none⟩) hgB).trans e1
      have HX : Hid (Ad.notes (L.take (k + 1)) = Ad.note (Ad.notes (L.take k)) x) := Lib.hid (by rw [take_snoc' hx, Ad.notes_snoc])
      have HSM := Lib.hid (DrSz.of HP.out hok.len)
      have HST := Lib.hid (DrSz.of HP.out (hok.note x).len)
      have ct := fun W => HP.out.note 200 _ x W hok (by omega)
      have HPUT := Lib.hid (fun W (h : DrIn D w W b (Ad.notes (L.take k))) => h.put HP.out (hok.note x).len)
      have HOK := Lib.hid hok
      clear hx hok
      generalize Ad.notes (L.take k) = s at *
      by_cases hm : Ad.may x = true
      · obtain ⟨hx0, hx1⟩ := Ad.may_iff.1 hm
        obtain ⟨p, rfl⟩ := Int.eq_ofNat_of_zero_le hx0
        have hp : p < 16 := by omega
        have k0 : (0 : Int) ≤ (p : Int) := hx0
        have k1 : (p : Int) < 16 := by omega
        have d2 : decide ((p : Int) < 0) = false := decide_eq_false (by omega)
        have d3 : decide ((15 : Int) < (p : Int)) = false := decide_eq_false (by omega)
        have hg := HOK.out.getD p
        have hnn := HOK.out.n1
        have hn0 := HOK.out.n0
        obtain ⟨y, hy⟩ : ∃ y, y = s.s.getD p 0 := ⟨_, rfl⟩
        rw [← hy] at hg
        have hw1 : IntKind.i64.wrap (y + 1) = y + 1 := IntWalk.i64_in _ (by omega)
        obtain ⟨N, hN⟩ : ∃ N, N = s.n := ⟨_, rfl⟩
        have hw2 : IntKind.i64.wrap (N + 1) = N + 1 := IntWalk.i64_in _ (by omega)
        have ht : (N + 1).tmod 32 = (N + 1) % 32 := Int.tmod_eq_emod_of_nonneg (by omega)
        have HY : Hid (s.s.getD p 0 = y) := Lib.hid hy.symm
        have HPP := Lib.hid hp
        have HMY := Lib.hid hm
        have HNE := Lib.hid hN
        rw [← hN]
        have HBS : Hid ((Ad.bump s (p : Int)).s = s.s.set p (y + 1) ∧ (Ad.bump s (p : Int)).n = N + 1) := Lib.hid ⟨by rw [hy]; rfl, by rw [hN]; rfl⟩
        by_cases hh : (N + 1) % 32 = 0
        · have d4 : ((N + 1).tmod 32 == 0) = true := by rw [ht, hh]; rfl
          have HNT : Hid (Ad.note s (p : Int) = Ad.half (Ad.bump s (p : Int))) := Lib.hid (by unfold Ad.note; rw [if_pos hm, ← hN, if_pos hh])
          clear hm hx0 hx1 hp hy hh ht hg hnn hn0 hN
          go_wp2_with (first
            | go_big_skip
            | (refine wpList_load_mid (by rfl) 26 (.tmp 9) (by rfl) b 0 (by rfl) (D s) _ HA.out.door.box.range Try.underlying26 (by rfl) HSM.out.sizeL ?_)
            | (go_at_call 7; (with_reducible refine (ct _).mono ?_); rintro e w4 ⟨rfl, hb4⟩; have HA4 := Lib.hid (HA.out.on hb4); have HPT := Lib.hid (HPUT.out w4 HA4.out.door); obtain ⟨w5, hw5⟩ : ∃ w5, w5 = w4.setCells b 0 (D (Ad.note s (p : Int))) := ⟨_, rfl⟩; have HW5 := Lib.hid hw5; have HA5 : Hid (AdIn D w w5 b c (Ad.note s (p : Int)) s.s) := Lib.hid (by rw [hw5]; exact HA4.out.put HPT.out); have f1 := (HA5.out.at HPP.out).1; have f2 := (HA5.out.at HPP.out).2; rw [HY.out] at f1; clear hb4 ct hw5)
            | (refine wpList_store_mid (by rfl) 26 (.tmp 9) (.tmp 31) (by rfl) b 0 (D (Ad.note s (p : Int))).toArray (by rfl) (by rfl) HPT.out.there HST.out.size HST.out.one ?_; rw [List.toList_toArray, ← HW5.out]))
          obtain ⟨w6, hw6⟩ : ∃ w6, w6 = w5.setCell ⟨c, p, none⟩ (.int .i64 (y + 1)) := ⟨_, rfl⟩
          rw [← hw6]
          have HI : Hid (AdIn D w w6 b c (Ad.note s (p : Int)) (Ad.mixed (Ad.bump s (p : Int)).s 0)) := Lib.hid (by rw [Ad.mixed_zero, HBS.out.1, hw6]; exact HA5.out.set p (y + 1))
          have HOB := Lib.hid (HOK.out.bump (p : Int))
          clear hw6 HA5 HA4 f1 f2 HPT HW5
          obtain ⟨wo, hwo⟩ : ∃ wo, wo = wr := ⟨wr, rfl⟩
          subst hwo
          have HLT := Lib.hid hlt
          clear hlt
          --HALF
          go_loopw [48] (fun i wr => ∃ q : Nat, q ≤ 16 ∧ i = .int .i64 q ∧ Hid (AdIn D w wr b c (Ad.note s (p : Int)) (Ad.mixed (Ad.bump s (p : Int)).s q))) (fun i _ => 16 - (intOf i).toNat)
          case atStart => exact ⟨0, by omega, rfl, HI⟩
          case round =>
            clear HI
            obtain ⟨q, hq, rfl, HI⟩ := hrel
            by_cases hlq : q < 16
            · have hg := HOB.out.getD q
              have hnn := HOB.out.n1
              have hlen := HOB.out.len
              have f1 := (HI.out.at hlq).1
              have f2 := (HI.out.at hlq).2
              rw [Ad.mixed_at (by omega)] at f1
              have HSE : Hid (∀ v, v = (Ad.bump s (p : Int)).s.getD q 0 → (Ad.mixed (Ad.bump s (p : Int)).s q).set q (v / 2) = Ad.mixed (Ad.bump s (p : Int)).s (q + 1)) := Lib.hid fun v h => by rw [h]; exact Ad.mixed_set (by omega)
              obtain ⟨v, hv⟩ : ∃ v, v = (Ad.bump s (p : Int)).s.getD q 0 := ⟨_, rfl⟩
              rw [← hv] at f1 hg
              have HSV := Lib.hid (HSE.out v hv)
              have k0 : (0 : Int) ≤ (q : Int) := by omega
              have k1 : (q : Int) < 16 := by omega
              have hw3 : v.tdiv 2 = v / 2 := Int.tdiv_eq_ediv_of_nonneg hg.1
              have hw4 : IntKind.i64.wrap (v / 2) = v / 2 := IntWalk.i64_in _ (by omega)
              clear HSE hv hg hnn hlen
              go_wp2
              go_roundw
              case rel => exact ⟨q + 1, by omega, by go_num, Lib.hid (by rw [← HSV.out]; exact HI.out.set q (v / 2))⟩
              case measure => simp [intOf]; omega
            · have HE : Hid (AdIn D w wr b c (Ad.note s (p : Int)) (Ad.note s (p : Int)).s) := Lib.hid (by
                have h9 := HI.out
                rw [Ad.mixed_all (by have := HOB.out.len; omega)] at h9
                rw [HNT.out] at h9 ⊢
                exact h9)
              have HNN : Hid ((Ad.note s (p : Int)).n = N + 1) := Lib.hid (by rw [HNT.out]; exact HBS.out.2)
              have hlt := HLT.out
              clear HI
              go_wp2
              go_roundw
              case rel => exact ⟨k + 1, by omega, by go_num, by rw [HX.out, HNN.out], Lib.hid (by rw [HX.out]; exact HE.out)⟩
              case measure => simp [intOf]; omega
        · have d4 : ((N + 1).tmod 32 == 0) = false := by rw [ht]; exact beq_false_of_ne hh
          have HNT : Hid (Ad.note s (p : Int) = Ad.bump s (p : Int)) := Lib.hid (by unfold Ad.note; rw [if_pos hm, ← hN, if_neg hh])
          clear hm hx0 hx1 hp hy hh ht hg hnn hn0 hN
          go_wp2_with (first
            | go_big_skip
            | (refine wpList_load_mid (by rfl) 26 (.tmp 9) (by rfl) b 0 (by rfl) (D s) _ HA.out.door.box.range Try.underlying26 (by rfl) HSM.out.sizeL ?_)
            | (go_at_call 7; (with_reducible refine (ct _).mono ?_); rintro e w4 ⟨rfl, hb4⟩; have HA4 := Lib.hid (HA.out.on hb4); have HPT := Lib.hid (HPUT.out w4 HA4.out.door); obtain ⟨w5, hw5⟩ : ∃ w5, w5 = w4.setCells b 0 (D (Ad.note s (p : Int))) := ⟨_, rfl⟩; have HW5 := Lib.hid hw5; have HA5 : Hid (AdIn D w w5 b c (Ad.note s (p : Int)) s.s) := Lib.hid (by rw [hw5]; exact HA4.out.put HPT.out); have f1 := (HA5.out.at HPP.out).1; have f2 := (HA5.out.at HPP.out).2; rw [HY.out] at f1; clear hb4 ct hw5)
            | (refine wpList_store_mid (by rfl) 26 (.tmp 9) (.tmp 31) (by rfl) b 0 (D (Ad.note s (p : Int))).toArray (by rfl) (by rfl) HPT.out.there HST.out.size HST.out.one ?_; rw [List.toList_toArray, ← HW5.out]))
          go_roundw
          case rel => exact ⟨k + 1, by omega, by go_num, by rw [HX.out, HNT.out, HBS.out.2], Lib.hid (by
            rw [HX.out]
            have h9 := HA5.out.set p (y + 1)
            rw [← HBS.out.1] at h9
            rw [HNT.out] at h9 ⊢
            exact h9)⟩
          case measure => simp [intOf]; omega
      · have HNT : Hid (Ad.note s x = s) := Lib.hid (by unfold Ad.note; rw [if_neg hm])
        by_cases hx0 : x < 0
        · have d2 : decide (x < 0) = true := decide_eq_true hx0
          clear hm hx0
          go_wp2_with (first
            | go_big_skip
            | (refine wpList_load_mid (by rfl) 26 (.tmp 9) (by rfl) b 0 (by rfl) (D s) _ HA.out.door.box.range Try.underlying26 (by rfl) HSM.out.sizeL ?_)
            | (go_at_call 7; (with_reducible refine (ct _).mono ?_); rintro e w4 ⟨rfl, hb4⟩; have HA4 := Lib.hid (HA.out.on hb4); have HPT := Lib.hid (HPUT.out w4 HA4.out.door); obtain ⟨w5, hw5⟩ : ∃ w5, w5 = w4.setCells b 0 (D (Ad.note s x)) := ⟨_, rfl⟩; have HW5 := Lib.hid hw5; have HA5 : Hid (AdIn D w w5 b c (Ad.note s x) s.s) := Lib.hid (by rw [hw5]; exact HA4.out.put HPT.out); clear hb4 ct hw5)
            | (refine wpList_store_mid (by rfl) 26 (.tmp 9) (.tmp 31) (by rfl) b 0 (D (Ad.note s x)).toArray (by rfl) (by rfl) HPT.out.there HST.out.size HST.out.one ?_; rw [List.toList_toArray, ← HW5.out]))
          go_roundw
          case rel => exact ⟨k + 1, by omega, by go_num, by rw [HX.out, HNT.out], Lib.hid (by
            rw [HX.out]
            have h9 := HA5.out
            rw [HNT.out] at h9 ⊢
            exact h9)⟩
          case measure => simp [intOf]; omega
        · have d2 : decide (x < 0) = false := decide_eq_false hx0
          have d3 : decide ((15 : Int) < x) = true := decide_eq_true (Int.not_le.1 fun h => hm (Ad.may_iff.2 ⟨by omega, by omega⟩))
          clear hm hx0
          go_wp2_with (first
            | go_big_skip
            | (refine wpList_load_mid (by rfl) 26 (.tmp 9) (by rfl) b 0 (by rfl) (D s) _ HA.out.door.box.range Try.underlying26 (by rfl) HSM.out.sizeL ?_)
            | (go_at_call 7; (with_reducible refine (ct _).mono ?_); rintro e w4 ⟨rfl, hb4⟩; have HA4 := Lib.hid (HA.out.on hb4); have HPT := Lib.hid (HPUT.out w4 HA4.out.door); obtain ⟨w5, hw5⟩ : ∃ w5, w5 = w4.setCells b 0 (D (Ad.note s x)) := ⟨_, rfl⟩; have HW5 := Lib.hid hw5; have HA5 : Hid (AdIn D w w5 b c (Ad.note s x) s.s) := Lib.hid (by rw [hw5]; exact HA4.out.put HPT.out); clear hb4 ct hw5)
            | (refine wpList_store_mid (by rfl) 26 (.tmp 9) (.tmp 31) (by rfl) b 0 (D (Ad.note s x)).toArray (by rfl) (by rfl) HPT.out.there HST.out.size HST.out.one ?_; rw [List.toList_toArray, ← HW5.out]))
          go_roundw
          case rel => exact ⟨k + 1, by omega, by go_num, by rw [HX.out, HNT.out], Lib.hid (by
            rw [HX.out]
            have h9 := HA5.out
            rw [HNT.out] at h9 ⊢
            exact h9)⟩
          case measure => simp [intOf]; omega
    · have hL : L.take k = L := List.take_of_length_le (by have := HN.out.2; omega)
      rw [hL] at HA hok ⊢
      have HOK := Lib.hid hok
      have HSM := Lib.hid (DrSz.of HP.out hok.len)
      have HCS : Hid (∀ (o : Int) W, Calls Try.prog 8 #[.agg (D (Ad.notes L)).toArray, .int .i64 o] W fun e w' => e = .returned (.int .i64 (Ad.seen (Ad.notes L) o)) ∧ Below W.heap.size W w') := Lib.hid fun o W => HP.out.seen 200 _ o W hok (by omega)
      have cc := fun W => HP.out.count 200 _ W hok (by omega)
      have ca := fun W => HP.out.admit 200 _ o len most W hok (by omega)
      clear hL hok HP
      generalize Ad.notes L = s at *
      go_wp2
      --TAIL<
      have HMS : Hid (∀ q : Nat, q < 16 → Ad.seen s (q : Int) = s.s.getD q 0) := Lib.hid fun q hq => by unfold Ad.seen; rw [if_pos (Ad.may_iff.2 ⟨by omega, by omega⟩)]; rfl
      go_loopw [59] (fun i wr => ∃ q : Nat, q ≤ 16 ∧ i = .int .i64 q ∧ Hid (AdIn D w wr b c s s.s)) (fun i _ => 16 - (intOf i).toNat)
      case atStart => exact ⟨0, by omega, rfl, HA⟩
      case round =>
        clear HA
        obtain ⟨q, hq, rfl, HA⟩ := hrel
        by_cases hlq : q < 16
        · have k0 : (0 : Int) ≤ (q : Int) := by omega
          have k1 : (q : Int) < 16 := by omega
          have cs := HCS.out (q : Int)
          rw [HMS.out q hlq] at cs
          have HC : Hid (∀ W, Below wr.heap.size wr W → W.cell? ⟨c, q, none⟩ = some (.int .i64 (s.s.getD q 0))) := Lib.hid fun W hb => ((HA.out.on hb).at hlq).1
          generalize s.s.getD q 0 = v at *
          have HB0 := Lib.hid (Below.refl wr.heap.size wr).drew
          have HPS : Hid (∀ W, Below wr.heap.size wr W → W.rangeAt b 0 (D s) ∧ W.cell? ⟨c, q, none⟩ = some (.int .i64 v)) := Lib.hid fun W hb => ⟨(HA.out.on hb).door.box.range, HC.out W hb⟩
          have hP := HPS.out _ HB0.out
          have hvv : (v != v) = false := by simp
          clear HC
          go_upto_region 25 with fail
          refine wp_region_held_drew (S := (fun W => W.rangeAt b 0 (D s) ∧ W.cell? ⟨c, q, none⟩ = some (.int .i64 v))) (by kernel_rfl) hP (fun hHeld => ?_)
          generalize wr.drew = wc at *
          refine wpAnyH_take (i := 0) (v := .agg (D s).toArray) (List.getElem?_toArray.trans rfl) (by kernel_rfl) (by kernel_rfl) (by kernel_rfl) (fun _ _ _ h => h) ?_ (by assumption) ?_
          · exact yieldsIf_load_mid (by rfl) 26 _ (by rfl) b 0 (by rfl) (D s) _ (fun _ h => h.1) Try.underlying26 (by rfl) HSM.out.sizeL
          simp only [Act.put, List.setIfInBounds_toArray, List.set_cons_zero, List.set_cons_succ]
          refine wpAnyH_take (i := 1) (v := ?_) (List.getElem?_toArray.trans rfl) (by kernel_rfl) (by kernel_rfl) (by kernel_rfl) (fun _ _ _ h => h) (Or.inl ⟨by rfl, ?_⟩) (by assumption) ?_
          case refine_2 => (intro w hSw; (try dsimp only at hSw); clear hSw; go_simp <;> with_reducible rfl)
          simp only [Act.put, List.setIfInBounds_toArray, List.set_cons_zero, List.set_cons_succ]
          refine wpAnyH_take (i := 3) (v := ?_) (List.getElem?_toArray.trans rfl) (by kernel_rfl) (by kernel_rfl) (by kernel_rfl) (fun _ _ _ h => h) (Or.inl ⟨by rfl, ?_⟩) (by assumption) ?_
          case refine_2 => (intro w hSw; (try dsimp only at hSw); clear hSw; go_simp <;> with_reducible rfl)
          simp only [Act.put, List.setIfInBounds_toArray, List.set_cons_zero, List.set_cons_succ]
          refine wpAnyH_take (i := 4) (v := ?_) (List.getElem?_toArray.trans rfl) (by kernel_rfl) (by kernel_rfl) (by kernel_rfl) (fun _ _ _ h => h) (Or.inl ⟨by rfl, ?_⟩) (by assumption) ?_
          case refine_2 => (intro w hSw; (try dsimp only at hSw); clear hSw; go_simp <;> with_reducible rfl)
          simp only [Act.put, List.setIfInBounds_toArray, List.set_cons_zero, List.set_cons_succ]
          refine wpAnyH_take (i := 5) (v := ?_) (List.getElem?_toArray.trans rfl) (by kernel_rfl) (by kernel_rfl) (by kernel_rfl) (fun _ _ _ h => h) (Or.inl ⟨by rfl, ?_⟩) (by assumption) ?_
          case refine_2 => (intro w hSw; obtain ⟨hSa, hSb⟩ := hSw; clear hSa; go_simp <;> with_reducible rfl)
          simp only [Act.put, List.setIfInBounds_toArray, List.set_cons_zero, List.set_cons_succ]
          refine wpAnyH_ready (rs := [2]) (by kernel_rfl) (by simp) ?_
          refine AllReadyH.cons (List.getElem?_toArray.trans rfl) (fun K hK => ?_) AllReadyH.nil
          go_simp
          go_at_call 8; (with_reducible refine (cs _).mono ?_); rintro e wd ⟨rfl, hbn⟩; replace HB0 := Lib.hid (HB0.out.trans (hbn.mono HB0.out.size)); have hP := HPS.out _ HB0.out; clear hbn
          refine hK.out _ _ hP (fun hHeld => ?_)
          clear hK K
          refine wpAnyH_take (i := 6) (v := ?_) (List.getElem?_toArray.trans rfl) (by kernel_rfl) (by kernel_rfl) (by kernel_rfl) (fun _ _ _ h => h) (Or.inl ⟨by rfl, ?_⟩) (by assumption) ?_
          case refine_2 => (intro w hSw; (try dsimp only at hSw); clear hSw; go_simp <;> with_reducible rfl)
          simp only [Act.put, List.setIfInBounds_toArray, List.set_cons_zero, List.set_cons_succ]
          refine wpAnyH_done (by kernel_rfl) ?_ _
          go_wp2_with fail
          go_roundw
          case rel => exact ⟨q + 1, by omega, by go_num, Lib.hid (HA.out.on HB0.out)⟩
          case measure => simp [intOf]; omega
        · have HJ := HA
          obtain ⟨wo, hwo⟩ : ∃ wo, wo = wr := ⟨wr, rfl⟩
          subst hwo
          have d9 : decide ((q : Int) < 16) = false := decide_eq_false (by omega)
          clear HA HMS hk hlt hlq hq
          obtain ⟨N, hN⟩ : ∃ N, N = s.n := ⟨_, rfl⟩
          rw [← hN] at cc ⊢
          have hnn : (N == N) = true := by simp
          clear hN
          by_cases h1 : 0 ≤ o
          · have e1 : decide (0 ≤ o) = true := decide_eq_true h1
            by_cases h2 : o < 16
            · have e2 : decide (o < 16) = true := decide_eq_true h2
              obtain ⟨p, rfl⟩ := Int.eq_ofNat_of_zero_le h1
              have hp : p < 16 := by omega
              have hm : Ad.may (p : Int) = true := Ad.may_iff.2 ⟨by omega, by omega⟩
              have cs := HCS.out (p : Int)
              have hsv : Ad.seen s (p : Int) = s.s.getD p 0 := by unfold Ad.seen; rw [if_pos hm]; rfl
              have f1 := (HJ.out.at hp).1
              have ca2 : ∀ W, Calls Try.prog 10 #[.agg (D s).toArray, .int .i64 (p : Int), .int .i64 len, .int .i64 most] W fun e w' => e = .returned (.bool (decide (0 ≤ len) && decide (len ≤ most) && decide (2 ≤ s.s.getD p 0))) ∧ Below W.heap.size W w' := fun W => by
                have h9 := ca W
                unfold Ad.admit at h9
                rw [hm, hsv, Bool.true_and] at h9
                exact h9
              rw [hsv] at cs
              generalize s.s.getD p 0 = v at *
              have hvv : (v == v) = true := by simp
              clear hsv hm ca HCS
              by_cases h3 : 0 ≤ len
              · have e3 : decide (0 ≤ len) = true := decide_eq_true h3
                by_cases h4 : len ≤ most
                · have e4 : decide (len ≤ most) = true := decide_eq_true h4
                  by_cases h5 : 2 ≤ v
                  · have e5 : decide (2 ≤ v) = true := decide_eq_true h5
                    rw [e3, e4, e5] at ca2
                    clear h3 h4 h5
                    go_wp2_with (first
                      | go_big_skip
                      | (refine wpList_load_want (by rfl) 26 (.tmp 9) (by rfl) b 0 (by rfl) (D s) _ HJ.out.door.box.range Try.underlying26 (by rfl) HSM.out.sizeL ?_)
                      | (go_at_call 8; (with_reducible refine (cs _).mono ?_); rintro e w6 ⟨rfl, hb6⟩; have HJ := Lib.hid (HJ.out.on hb6); clear hb6)
                      | (go_at_call 9; (with_reducible refine (cc _).mono ?_); rintro e w7 ⟨rfl, hb7⟩; have HJ := Lib.hid (HJ.out.on hb7); clear hb7)
                      | (go_at_call 10; (with_reducible refine (ca2 _).mono ?_); rintro e w8 ⟨rfl, hb8⟩; have HJ := Lib.hid (HJ.out.on hb8); clear hb8))
                    go_ret
                    exact ⟨rfl, HJ.out.door.below⟩
                  · have e5 : decide (2 ≤ v) = false := decide_eq_false h5
                    rw [e3, e4, e5] at ca2
                    clear h3 h4 h5
                    go_wp2_with (first
                      | go_big_skip
                      | (refine wpList_load_want (by rfl) 26 (.tmp 9) (by rfl) b 0 (by rfl) (D s) _ HJ.out.door.box.range Try.underlying26 (by rfl) HSM.out.sizeL ?_)
                      | (go_at_call 8; (with_reducible refine (cs _).mono ?_); rintro e w6 ⟨rfl, hb6⟩; have HJ := Lib.hid (HJ.out.on hb6); clear hb6)
                      | (go_at_call 9; (with_reducible refine (cc _).mono ?_); rintro e w7 ⟨rfl, hb7⟩; have HJ := Lib.hid (HJ.out.on hb7); clear hb7)
                      | (go_at_call 10; (with_reducible refine (ca2 _).mono ?_); rintro e w8 ⟨rfl, hb8⟩; have HJ := Lib.hid (HJ.out.on hb8); clear hb8))
                    go_ret
                    exact ⟨rfl, HJ.out.door.below⟩
                · have e4 : decide (len ≤ most) = false := decide_eq_false h4
                  rw [e3, e4, Bool.and_false, Bool.false_and] at ca2
                  clear h3 h4
                  go_wp2_with (first
                    | go_big_skip
                    | (refine wpList_load_want (by rfl) 26 (.tmp 9) (by rfl) b 0 (by rfl) (D s) _ HJ.out.door.box.range Try.underlying26 (by rfl) HSM.out.sizeL ?_)
                    | (go_at_call 8; (with_reducible refine (cs _).mono ?_); rintro e w6 ⟨rfl, hb6⟩; have HJ := Lib.hid (HJ.out.on hb6); clear hb6)
                    | (go_at_call 9; (with_reducible refine (cc _).mono ?_); rintro e w7 ⟨rfl, hb7⟩; have HJ := Lib.hid (HJ.out.on hb7); clear hb7)
                    | (go_at_call 10; (with_reducible refine (ca2 _).mono ?_); rintro e w8 ⟨rfl, hb8⟩; have HJ := Lib.hid (HJ.out.on hb8); clear hb8))
                  go_ret
                  exact ⟨rfl, HJ.out.door.below⟩
              · have e3 : decide (0 ≤ len) = false := decide_eq_false h3
                rw [e3, Bool.false_and, Bool.false_and] at ca2
                clear h3
                go_wp2_with (first
                  | go_big_skip
                  | (refine wpList_load_want (by rfl) 26 (.tmp 9) (by rfl) b 0 (by rfl) (D s) _ HJ.out.door.box.range Try.underlying26 (by rfl) HSM.out.sizeL ?_)
                  | (go_at_call 8; (with_reducible refine (cs _).mono ?_); rintro e w6 ⟨rfl, hb6⟩; have HJ := Lib.hid (HJ.out.on hb6); clear hb6)
                  | (go_at_call 9; (with_reducible refine (cc _).mono ?_); rintro e w7 ⟨rfl, hb7⟩; have HJ := Lib.hid (HJ.out.on hb7); clear hb7)
                  | (go_at_call 10; (with_reducible refine (ca2 _).mono ?_); rintro e w8 ⟨rfl, hb8⟩; have HJ := Lib.hid (HJ.out.on hb8); clear hb8))
                go_ret
                exact ⟨rfl, HJ.out.door.below⟩
            · have e2 : decide (o < 16) = false := decide_eq_false h2
              have hm : Ad.may o = false := Ad.may_no (by omega)
              have cs : ∀ W, Calls Try.prog 8 #[.agg (D s).toArray, .int .i64 o] W fun e w' => e = .returned (.int .i64 0) ∧ Below W.heap.size W w' := fun W => by
                have h9 := HCS.out o W
                unfold Ad.seen at h9
                rw [hm] at h9
                exact h9
              have ca2 : ∀ W, Calls Try.prog 10 #[.agg (D s).toArray, .int .i64 o, .int .i64 len, .int .i64 most] W fun e w' => e = .returned (.bool false) ∧ Below W.heap.size W w' := fun W => by
                have h9 := ca W
                unfold Ad.admit at h9
                rw [hm, Bool.false_and, Bool.false_and, Bool.false_and] at h9
                exact h9
              clear hm ca HCS h1
              go_wp2_with (first
                | go_big_skip
                | (refine wpList_load_want (by rfl) 26 (.tmp 9) (by rfl) b 0 (by rfl) (D s) _ HJ.out.door.box.range Try.underlying26 (by rfl) HSM.out.sizeL ?_)
                | (go_at_call 8; (with_reducible refine (cs _).mono ?_); rintro e w6 ⟨rfl, hb6⟩; have HJ := Lib.hid (HJ.out.on hb6); clear hb6)
                | (go_at_call 9; (with_reducible refine (cc _).mono ?_); rintro e w7 ⟨rfl, hb7⟩; have HJ := Lib.hid (HJ.out.on hb7); clear hb7)
                | (go_at_call 10; (with_reducible refine (ca2 _).mono ?_); rintro e w8 ⟨rfl, hb8⟩; have HJ := Lib.hid (HJ.out.on hb8); clear hb8))
              go_ret
              exact ⟨rfl, HJ.out.door.below⟩
          · have e1 : decide (0 ≤ o) = false := decide_eq_false h1
            have hm : Ad.may o = false := Ad.may_no (by omega)
            have cs : ∀ W, Calls Try.prog 8 #[.agg (D s).toArray, .int .i64 o] W fun e w' => e = .returned (.int .i64 0) ∧ Below W.heap.size W w' := fun W => by
              have h9 := HCS.out o W
              unfold Ad.seen at h9
              rw [hm] at h9
              exact h9
            have ca2 : ∀ W, Calls Try.prog 10 #[.agg (D s).toArray, .int .i64 o, .int .i64 len, .int .i64 most] W fun e w' => e = .returned (.bool false) ∧ Below W.heap.size W w' := fun W => by
              have h9 := ca W
              unfold Ad.admit at h9
              rw [hm, Bool.false_and, Bool.false_and, Bool.false_and] at h9
              exact h9
            clear hm ca HCS h1
            go_wp2_with (first
              | go_big_skip
              | (refine wpList_load_want (by rfl) 26 (.tmp 9) (by rfl) b 0 (by rfl) (D s) _ HJ.out.door.box.range Try.underlying26 (by rfl) HSM.out.sizeL ?_)
              | (go_at_call 8; (with_reducible refine (cs _).mono ?_); rintro e w6 ⟨rfl, hb6⟩; have HJ := Lib.hid (HJ.out.on hb6); clear hb6)
              | (go_at_call 9; (with_reducible refine (cc _).mono ?_); rintro e w7 ⟨rfl, hb7⟩; have HJ := Lib.hid (HJ.out.on hb7); clear hb7)
              | (go_at_call 10; (with_reducible refine (ca2 _).mono ?_); rintro e w8 ⟨rfl, hb8⟩; have HJ := Lib.hid (HJ.out.on hb8); clear hb8))
            go_ret
            exact ⟨rfl, HJ.out.door.below⟩
      --TAIL>
end Go.Proofs.Ytopkhmbgdhpgeaa
