/-
  The landed door: halved, Note, Admit; DoorPrg.
-/
import Derived.Test.YtopkhmbgdhpgeaaAdDoor
namespace Go.Proofs.Ytopkhmbgdhpgeaa
open Go.ChangeShapes Go.WideShapes Go.ChangeAt Go.RowKit
set_option maxRecDepth 100000

/-- an object that may not be is seen never -/
theorem Ad.admit_seen (s : Ad.St) (o len most : Int) : Ad.admit s o len most = (decide (2 ≤ Ad.seen s o) && decide (0 ≤ len) && decide (len ≤ most)) := by
  unfold Ad.admit Ad.seen
  cases Ad.may o
  · simp
  · simp only [if_true, Bool.true_and]
    cases decide (0 ≤ len) <;> cases decide (len ≤ most) <;> cases decide (2 ≤ s.s.getD o.toNat 0) <;> rfl
set_option maxHeartbeats 2000000 in
theorem door_halved {m : Nat} {s : Ad.St} (ok : Ad.Ok m s) (hm : m ≤ 1001) (w : World) : Calls Try.prog 12 #[.agg (doorC s).toArray] w fun e w' => e = .returned (.agg (doorC (Ad.half s)).toArray) ∧ Below w.heap.size w w' := by
  have hz := door_zero
  obtain ⟨wz, hwz⟩ : ∃ wz, wz = (w.alloc (.cells (doorC s).toArray 26)).alloc (.cells (doorC Ad.zero).toArray 26) := ⟨_, rfl⟩
  have hN := NtIn.new w ok.len
  rw [← hwz] at hN
  have HWZ := Lib.hid hwz
  have HI : Hid (NtIn w wz ⟨Ad.mixed s.s 0, s.n⟩) := Lib.hid (by rw [Ad.mixed_zero]; exact hN)
  have HOB := Lib.hid ok
  have HM : Hid (m ≤ 1001) := Lib.hid hm
  obtain ⟨c2, hc2⟩ : ∃ c2, c2 = doorC (Ad.half s) := ⟨_, rfl⟩
  rw [← hc2]
  have HC2 := Lib.hid hc2
  clear hwz hN ok hm hc2
  generalize doorC Ad.zero = z0 at *
  generalize doorC s = cs at *
  go_enter Try.func12, Try.ntmps12
  go_upto_region 1 with fail
  rw [← HWZ.out]
  go_wp2
  go_loopw [4] (fun i wr => ∃ q : Nat, q ≤ 16 ∧ i = .int .i64 q ∧ Hid (NtIn w wr ⟨Ad.mixed s.s q, s.n⟩)) (fun i _ => 16 - (intOf i).toNat)
  case atStart => exact ⟨0, by omega, rfl, HI⟩
  case round =>
    clear HI
    obtain ⟨q, hq, rfl, HI⟩ := hrel
    by_cases hlq : q < 16
    · have hg := HOB.out.getD q
      have hnn := HOB.out.n1
      have hlen := HOB.out.len
      have hm := HM.out
      have f1 := (HI.out.at hlq).1
      have f2 := (HI.out.at hlq).2
      dsimp only at f1
      rw [Ad.mixed_at (by omega)] at f1
      have HSE : Hid (∀ v, v = s.s.getD q 0 → NtIn w (wr.setCell ⟨w.heap.size, q, none⟩ (.int .i64 (v / 2))) ⟨Ad.mixed s.s (q + 1), s.n⟩) := Lib.hid fun v h => by
        have h9 := HI.out.set hlq (v / 2)
        rw [h] at h9 ⊢
        dsimp only at h9
        rwa [Ad.mixed_set (by omega)] at h9
      obtain ⟨v, hv⟩ : ∃ v, v = s.s.getD q 0 := ⟨_, rfl⟩
      rw [← hv] at f1 hg
      have HSV := Lib.hid (HSE.out v hv)
      have k0 : (0 : Int) ≤ (q : Int) := by omega
      have k1 : (q : Int) < 16 := by omega
      have hw3 : v.tdiv 2 = v / 2 := Int.tdiv_eq_ediv_of_nonneg hg.1
      have hw4 : IntKind.i64.wrap (v / 2) = v / 2 := IntWalk.i64_in _ (by omega)
      clear HSE hv hg hnn hlen hm
      go_wp2
      go_roundw
      case rel => exact ⟨q + 1, by omega, by go_num, HSV⟩
      case measure => simp [intOf]; omega
    · have HE : Hid (NtIn w wr (Ad.half s)) := Lib.hid (by
        have h9 := HI.out
        rw [show q = 16 by omega, Ad.mixed_all (by have := HOB.out.len; omega)] at h9
        exact h9)
      have HQ : Hid (DoorOut w wr (w.heap.size + 1) c2) := Lib.hid (by rw [HC2.out]; exact HE.out.put)
      have HR : Hid (wr.rangeAt w.heap.size 0 c2) := Lib.hid (by rw [HC2.out]; exact HE.out.bx.range)
      have d9 : decide ((q : Int) < 16) = false := decide_eq_false (by omega)
      clear HI HE hlq hq
      go_wp2_with (first
        | (refine wpList_load_mid (by rfl) 26 (.tmp 1) (by rfl) w.heap.size 0 (by rfl) c2 _ HR.out Try.underlying26 (by rfl) HQ.out.sizeL ?_)
        | (refine wpList_store_mid (by rfl) 26 (.tmp 2) (.tmp 15) (by rfl) (w.heap.size + 1) 0 c2.toArray (by rfl) (by rfl) HQ.out.there HQ.out.size HQ.out.one ?_; rw [List.toList_toArray]))
      exact bodyPost_ret (res_door Try.results12 (by rfl) HQ.out.range HQ.out.len) rfl ⟨rfl, HQ.out.below⟩
set_option maxHeartbeats 2000000 in
theorem door_note {m : Nat} {s : Ad.St} (ok : Ad.Ok m s) (hm : m ≤ 1000) (o : Int) (w : World) : Calls Try.prog 7 #[.agg (doorC s).toArray, .int .i64 o] w fun e w' => e = .returned (.agg (doorC (Ad.note s o)).toArray) ∧ Below w.heap.size w w' := by
  have hz := door_zero
  obtain ⟨wz, hwz⟩ : ∃ wz, wz = (w.alloc (.cells (doorC s).toArray 26)).alloc (.cells (doorC Ad.zero).toArray 26) := ⟨_, rfl⟩
  have hN := NtIn.new w ok.len
  rw [← hwz] at hN
  have HWZ := Lib.hid hwz
  have HN := Lib.hid hN
  have cm := door_may o
  cases hmay : Ad.may o
  · rw [hmay] at cm
    have ht : Ad.note s o = s := by unfold Ad.note; rw [if_neg (by rw [hmay]; simp)]
    rw [ht]
    have HQ := Lib.hid hN.put
    have HR := Lib.hid hN.bx.range
    clear hwz hN HN ht hmay ok hm
    generalize doorC Ad.zero = z0 at *
    generalize doorC s = cs at *
    go_enter Try.func7, Try.ntmps7
    go_upto_region 1 with fail
    rw [← HWZ.out]
    go_wp2_with (first
      | (go_at_call 11; (with_reducible refine (cm _).mono ?_); rintro e w1 ⟨rfl, rfl⟩; clear cm)
      | (refine wpList_load_mid (by rfl) 26 (.tmp 2) (by rfl) w.heap.size 0 (by rfl) cs _ HR.out Try.underlying26 (by rfl) HQ.out.sizeL ?_)
      | (refine wpList_store_mid (by rfl) 26 (.tmp 4) (.tmp 8) (by rfl) (w.heap.size + 1) 0 cs.toArray (by rfl) (by rfl) HQ.out.there HQ.out.size HQ.out.one ?_; rw [List.toList_toArray]))
    exact bodyPost_ret (res_door Try.results7 (by rfl) HQ.out.range HQ.out.len) rfl ⟨rfl, HQ.out.below⟩
  · rw [hmay] at cm
    obtain ⟨h0, h1⟩ := Ad.may_iff.1 hmay
    obtain ⟨p, rfl⟩ := Int.eq_ofNat_of_zero_le h0
    have hp : p < 16 := by omega
    have k1 : (p : Int) < 16 := by omega
    have hg := ok.getD p
    have hn0 := ok.n0
    have hn1 := ok.n1
    have f1 := (hN.at hp).1
    have f2 := (hN.at hp).2
    obtain ⟨y, hy⟩ : ∃ y, y = s.s.getD p 0 := ⟨_, rfl⟩
    rw [← hy] at hg f1
    obtain ⟨N, hNn⟩ : ∃ N, N = s.n := ⟨_, rfl⟩
    have hw1 : IntKind.i64.wrap (y + 1) = y + 1 := IntWalk.i64_in _ (by omega)
    have hw2 : IntKind.i64.wrap (N + 1) = N + 1 := IntWalk.i64_in _ (by omega)
    have hN2 := hN.set hp (y + 1)
    have hN3 := hN2.setN (N + 1)
    have g1 := hN2.atN.1
    have g2 := hN2.atN.2
    have g3 := hN3.atN.1
    rw [← hNn] at g1
    have HB3 : Hid ((⟨s.s.set p (y + 1), N + 1⟩ : Ad.St) = Ad.bump s (p : Int)) := Lib.hid (by rw [hy, hNn]; rfl)
    have ht : (N + 1).tmod 32 = (N + 1) % 32 := Int.tmod_eq_emod_of_nonneg (by omega)
    by_cases hh : (N + 1) % 32 = 0
    · have d4 : ((N + 1).tmod 32 == 0) = true := by rw [ht, hh]; rfl
      have HNT : Hid (Ad.note s (p : Int) = Ad.half (Ad.bump s (p : Int))) := Lib.hid (by unfold Ad.note; rw [if_pos hmay, ← hNn, if_pos hh])
      have ob := ok.bump (p : Int)
      have hN6 : NtIn w ((wz.setCell ⟨w.heap.size, p, none⟩ (.int .i64 (y + 1))).setCell ⟨w.heap.size, 16, none⟩ (.int .i64 (N + 1))) (Ad.bump s (p : Int)) := by rw [← HB3.out]; exact hN3
      have ch := door_halved ob (by omega) ((wz.setCell ⟨w.heap.size, p, none⟩ (.int .i64 (y + 1))).setCell ⟨w.heap.size, 16, none⟩ (.int .i64 (N + 1)))
      have HR := Lib.hid hN6.bx.range
      have HS : Hid ((Try.prog.info? 26).map (·.size) = some (doorC (Ad.bump s (p : Int))).length) := Lib.hid (by rw [door_size, doorC_length ob.len])
      have HBW := Lib.hid hN6.below
      have HPUT : Hid (∀ w7, Below ((wz.setCell ⟨w.heap.size, p, none⟩ (.int .i64 (y + 1))).setCell ⟨w.heap.size, 16, none⟩ (.int .i64 (N + 1))).heap.size ((wz.setCell ⟨w.heap.size, p, none⟩ (.int .i64 (y + 1))).setCell ⟨w.heap.size, 16, none⟩ (.int .i64 (N + 1))) w7 → DoorOut w w7 (w.heap.size + 1) (doorC (Ad.half (Ad.bump s (p : Int))))) := Lib.hid fun w7 h7 => by
        refine DoorOut.mk' (z := doorC Ad.zero) ob.half.len (doorC_length (by simp [Ad.zero])) (hN6.out.below h7 hN6.out.lt) (hN6.below.trans (h7.mono hN6.below.size)) (by omega)
      rw [HNT.out]
      clear hwz hN HN hmay ok hm h1 hp hg hn0 hn1 hy hNn hN2 hN3 ht hh HB3 HNT ob hN6
      generalize doorC Ad.zero = z0 at *
      generalize doorC s = cs at *
      generalize doorC (Ad.bump s (p : Int)) = cb at *
      generalize doorC (Ad.half (Ad.bump s (p : Int))) = c2 at *
      go_enter Try.func7, Try.ntmps7
      go_upto_region 1 with fail
      rw [← HWZ.out]
      go_wp2_with (first
        | (go_at_call 11; (with_reducible refine (cm _).mono ?_); rintro e w1 ⟨rfl, rfl⟩; clear cm)
        | (refine wpList_load_mid (by rfl) 26 (.tmp 2) (by rfl) w.heap.size 0 (by rfl) cb _ HR.out Try.underlying26 (by rfl) HS.out ?_)
        | (go_at_call 12; (with_reducible refine ch.mono ?_); rintro e w7 ⟨rfl, h7⟩; have HQ := Lib.hid (HPUT.out w7 h7); clear ch h7 f1 f2 g1 g2 g3)
        | (refine wpList_store_mid (by rfl) 26 (.tmp 4) (.tmp 25) (by rfl) (w.heap.size + 1) 0 c2.toArray (by rfl) (by rfl) HQ.out.there HQ.out.size HQ.out.one ?_; rw [List.toList_toArray]))
      exact bodyPost_ret (res_door Try.results7 (by rfl) HQ.out.range HQ.out.len) rfl ⟨rfl, HQ.out.below⟩
    · have d4 : ((N + 1).tmod 32 == 0) = false := by rw [ht]; exact beq_false_of_ne hh
      have ht : Ad.note s (p : Int) = Ad.bump s (p : Int) := by unfold Ad.note; rw [if_pos hmay, ← hNn, if_neg hh]
      rw [ht, ← HB3.out]
      have HQ := Lib.hid hN3.put
      have HR := Lib.hid hN3.bx.range
      clear hwz hN HN hmay ok hm h1 hp hg hn0 hn1 hy hNn hN2 hN3 ht hh HB3
      generalize doorC Ad.zero = z0 at *
      generalize doorC s = cs at *
      generalize doorC (⟨s.s.set p (y + 1), N + 1⟩ : Ad.St) = c2 at *
      go_enter Try.func7, Try.ntmps7
      go_upto_region 1 with fail
      rw [← HWZ.out]
      go_wp2_with (first
        | (go_at_call 11; (with_reducible refine (cm _).mono ?_); rintro e w1 ⟨rfl, rfl⟩; clear cm)
        | (refine wpList_load_mid (by rfl) 26 (.tmp 2) (by rfl) w.heap.size 0 (by rfl) c2 _ HR.out Try.underlying26 (by rfl) HQ.out.sizeL ?_)
        | (refine wpList_store_mid (by rfl) 26 (.tmp 4) (.tmp 26) (by rfl) (w.heap.size + 1) 0 c2.toArray (by rfl) (by rfl) HQ.out.there HQ.out.size HQ.out.one ?_; rw [List.toList_toArray]))
      exact bodyPost_ret (res_door Try.results7 (by rfl) HQ.out.range HQ.out.len) rfl ⟨rfl, HQ.out.below⟩
set_option maxHeartbeats 1000000 in
theorem door_admit {m : Nat} {s : Ad.St} (ok : Ad.Ok m s) (o len most : Int) (w : World) : Calls Try.prog 10 #[.agg (doorC s).toArray, .int .i64 o, .int .i64 len, .int .i64 most] w fun e w' => e = .returned (.bool (Ad.admit s o len most)) ∧ Below w.heap.size w w' := by
  have hm := Bx.new w (doorC s) 26
  obtain ⟨wz, hwz⟩ : ∃ wz, wz = w.alloc (.cells (doorC s).toArray 26) := ⟨_, rfl⟩
  rw [← hwz] at hm
  have HWZ := Lib.hid hwz
  have HB : Hid (Below w.heap.size w wz) := Lib.hid (by rw [hwz]; exact (Below.refl _ _).alloc (Nat.le_refl _) _)
  have cs := door_seen ok.len o wz
  have HR := Lib.hid hm.range
  have HS : Hid ((Try.prog.info? 26).map (·.size) = some (doorC s).length) := Lib.hid (by rw [door_size, doorC_length ok.len])
  rw [Ad.admit_seen]
  generalize Ad.seen s o = v at *
  clear hm hwz ok
  generalize doorC s = cells at *
  by_cases h5 : 2 ≤ v
  · have e5 : decide (2 ≤ v) = true := decide_eq_true h5
    by_cases h3 : 0 ≤ len
    · have e3 : decide (0 ≤ len) = true := decide_eq_true h3
      by_cases h4 : len ≤ most
      · have e4 : decide (len ≤ most) = true := decide_eq_true h4
        rw [e3, e4, e5]
        clear h3 h4 h5
        go_enter Try.func10, Try.ntmps10
        go_upto_region 1 with fail
        rw [← HWZ.out]
        go_wp2_with (first
          | go_big_skip
          | (refine wpList_load_mid (by rfl) 26 (.tmp 4) (by rfl) w.heap.size 0 (by rfl) cells _ HR.out Try.underlying26 (by rfl) HS.out ?_)
          | (go_at_call 8; (with_reducible refine cs.mono ?_); rintro e w2 ⟨rfl, hb2⟩; have HB := Lib.hid (HB.out.trans (hb2.mono HB.out.size)); clear hb2 cs))
        go_ret
        exact ⟨rfl, HB.out⟩
      · have e4 : decide (len ≤ most) = false := decide_eq_false h4
        rw [e3, e4, Bool.and_false]
        clear h3 h4 h5
        go_enter Try.func10, Try.ntmps10
        go_upto_region 1 with fail
        rw [← HWZ.out]
        go_wp2_with (first
          | go_big_skip
          | (refine wpList_load_mid (by rfl) 26 (.tmp 4) (by rfl) w.heap.size 0 (by rfl) cells _ HR.out Try.underlying26 (by rfl) HS.out ?_)
          | (go_at_call 8; (with_reducible refine cs.mono ?_); rintro e w2 ⟨rfl, hb2⟩; have HB := Lib.hid (HB.out.trans (hb2.mono HB.out.size)); clear hb2 cs))
        go_ret
        exact ⟨rfl, HB.out⟩
    · have e3 : decide (0 ≤ len) = false := decide_eq_false h3
      rw [e3, Bool.and_false, Bool.false_and]
      clear h3 h5
      go_enter Try.func10, Try.ntmps10
      go_upto_region 1 with fail
      rw [← HWZ.out]
      go_wp2_with (first
        | go_big_skip
        | (refine wpList_load_mid (by rfl) 26 (.tmp 4) (by rfl) w.heap.size 0 (by rfl) cells _ HR.out Try.underlying26 (by rfl) HS.out ?_)
        | (go_at_call 8; (with_reducible refine cs.mono ?_); rintro e w2 ⟨rfl, hb2⟩; have HB := Lib.hid (HB.out.trans (hb2.mono HB.out.size)); clear hb2 cs))
      go_ret
      exact ⟨rfl, HB.out⟩
  · have e5 : decide (2 ≤ v) = false := decide_eq_false h5
    rw [e5, Bool.false_and, Bool.false_and]
    clear h5
    go_enter Try.func10, Try.ntmps10
    go_upto_region 1 with fail
    rw [← HWZ.out]
    go_wp2_with (first
      | go_big_skip
      | (refine wpList_load_mid (by rfl) 26 (.tmp 4) (by rfl) w.heap.size 0 (by rfl) cells _ HR.out Try.underlying26 (by rfl) HS.out ?_)
      | (go_at_call 8; (with_reducible refine cs.mono ?_); rintro e w2 ⟨rfl, hb2⟩; have HB := Lib.hid (HB.out.trans (hb2.mono HB.out.size)); clear hb2 cs))
    go_ret
    exact ⟨rfl, HB.out⟩
theorem door_prg : DoorPrg doorC 17 where
  len s h := doorC_length h
  cell := doorC_cell
  size := door_size
  zero := ⟨doorC Ad.zero, doorC_length (by simp [Ad.zero]), door_zero⟩
  new := door_new
  note _ _ o W ok hm := door_note ok hm o W
  seen _ _ o W ok _ := door_seen ok.len o W
  count _ _ W ok _ := door_count ok.len W
  admit _ _ o len most W ok _ := door_admit ok o len most W
end Go.Proofs.Ytopkhmbgdhpgeaa
