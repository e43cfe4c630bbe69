/-
  The walk of AdmitTwice, by DoorPrg.
-/
import Derived.Test.YtopkhmbgdhpgeaaAdAwake
namespace Go.Proofs.Ytopkhmbgdhpgeaa
open Go.ChangeShapes Go.WideShapes Go.ChangeAt Go.RowKit
set_option maxRecDepth 100000

set_option maxHeartbeats 4000000 in
theorem admitTwice_any {D : Ad.St → List Value} {z : Nat} (P : DoorPrg D z) (A : Option Addr) (n c : Nat) (L : List Int) (o len : Int) (w : World) (h : Vs w w.heap.size A n (nums .i64 L)) (hl1 : len ≤ 9223372036854775807) :
    Calls Try.prog 4 #[.slice A n c, .int .i64 o, .int .i64 len] w fun e w' => e = .returned (.bool true) ∧ Below w.heap.size w w' := by
  have ka := awake_any P w
  by_cases hn : 200 < n
  · have d1 : decide ((200 : Int) < (n : Int)) = true := decide_eq_true (by omega)
    clear h P hl1
    go_enter Try.func4, Try.ntmps4
    go_wp2_with (go_at_call 5; (with_reducible refine ka.mono ?_); rintro e w1 ⟨rfl, hb1⟩; have HB1 := Lib.hid hb1; clear hb1)
    go_ret
    exact ⟨rfl, HB1.out⟩
  have d1 : decide ((200 : Int) < (n : Int)) = false := decide_eq_false (by omega)
  by_cases ho : o < 0
  · have d2 : decide (o < 0) = true := decide_eq_true ho
    clear h P hl1
    go_enter Try.func4, Try.ntmps4
    go_wp2_with (go_at_call 5; (with_reducible refine ka.mono ?_); rintro e w1 ⟨rfl, hb1⟩; have HB1 := Lib.hid hb1; clear hb1)
    go_ret
    exact ⟨rfl, HB1.out⟩
  have d2 : decide (o < 0) = false := decide_eq_false ho
  by_cases ho2 : 15 < o
  · have d3 : decide ((15 : Int) < o) = true := decide_eq_true ho2
    clear h P hl1
    go_enter Try.func4, Try.ntmps4
    go_wp2_with (go_at_call 5; (with_reducible refine ka.mono ?_); rintro e w1 ⟨rfl, hb1⟩; have HB1 := Lib.hid hb1; clear hb1)
    go_ret
    exact ⟨rfl, HB1.out⟩
  have d3 : decide ((15 : Int) < o) = false := decide_eq_false ho2
  by_cases hln : len < 0
  · have d4 : decide (len < 0) = true := decide_eq_true hln
    clear h P hl1
    go_enter Try.func4, Try.ntmps4
    go_wp2_with (go_at_call 5; (with_reducible refine ka.mono ?_); rintro e w1 ⟨rfl, hb1⟩; have HB1 := Lib.hid hb1; clear hb1)
    go_ret
    exact ⟨rfl, HB1.out⟩
  have d4 : decide (len < 0) = false := decide_eq_false hln
  have hmay : Ad.may o = true := Ad.may_iff.2 ⟨by omega, by omega⟩
  have hlw : IntKind.i64.wrap (len - 1) = len - 1 := IntWalk.i64_in _ (by omega)
  have HL := Lib.hid h
  obtain ⟨Z, hZ, hz⟩ := P.zero
  have kn := P.new
  have HP := Lib.hid P
  have HN : Hid (n ≤ 200 ∧ L.length = n) := Lib.hid ⟨by omega, by have := h.1; rwa [nums_length] at this⟩
  have HLE : Hid (0 ≤ len ∧ Ad.may o = true) := Lib.hid ⟨by omega, hmay⟩
  have HVAR : Hid (∀ W, Below w.heap.size w W → ∀ s : Ad.St, s.s.length = 16 → (W.alloc (.cells Z.toArray 26)).there W.heap.size 0 (D s).toArray.size ∧ DrIn D w ((W.alloc (.cells Z.toArray 26)).setCells W.heap.size 0 (D s)) W.heap.size s ∧ Below W.heap.size W ((W.alloc (.cells Z.toArray 26)).setCells W.heap.size 0 (D s))) := Lib.hid fun W hb s hs => DrIn.var P hZ hb hs
  have HV0 := Lib.hid (fun W hb => HVAR.out W hb Ad.zero (Ad.Ok.zero 0).len)
  have HS0 := Lib.hid (DrSz.of P (Ad.Ok.zero 0).len)
  clear h P hZ hn ho ho2 hln hmay hl1
  go_enter Try.func4, Try.ntmps4
  go_wp2_with (first
    | (go_at_call 5; (with_reducible refine ka.mono ?_); rintro e w1 ⟨rfl, hb1⟩; have HB1 := Lib.hid hb1; clear hb1 ka)
    | (go_at_call 6; (with_reducible refine (kn _).mono ?_); rintro e w2 ⟨rfl, hb2⟩; have HB2 := Lib.hid (HB1.out.trans (hb2.mono HB1.out.size)); have HV2 := Lib.hid (HV0.out w2 HB2.out); obtain ⟨b, hb⟩ : ∃ b, b = w2.heap.size := ⟨_, rfl⟩; have HBB := Lib.hid hb; clear hb hb2 kn)
    | (refine wpList_store_mid (by rfl) 26 (.tmp 7) (.tmp 29) (by rfl) w2.heap.size 0 (D Ad.zero).toArray (by rfl) (by rfl) HV2.out.1 HS0.out.size HS0.out.one ?_; rw [List.toList_toArray, ← HBB.out]))
  obtain ⟨wq, hwq⟩ : ∃ wq, wq = (w2.alloc (.cells Z.toArray 26)).setCells b 0 (D Ad.zero) := ⟨_, rfl⟩
  rw [← hwq]
  have HIN : Hid (DrIn D w wq b (Ad.notes (L.take 0))) := Lib.hid (by
    have h9 := HV2.out.2.1
    rw [← HBB.out, ← hwq] at h9
    exact h9)
  clear HV2 HV0 HS0 HB1 HB2 HBB hwq
  go_loopw [8, 32] (fun v i wr => ∃ k : Nat, k ≤ n ∧ i = .int .i64 k ∧ v = .int .i64 (Ad.times (L.take k) o) ∧ Hid (DrIn D w wr b (Ad.notes (L.take k)))) (fun _ i _ => n - (intOf i).toNat)
  case atStart => exact ⟨0, by omega, rfl, rfl, HIN⟩
  case round =>
    clear HIN
    obtain ⟨k, hk, rfl, rfl, HIN⟩ := hrel
    have hn20 := HN.out.1
    have hok : Ad.Ok 200 (Ad.notes (L.take k)) := (Ad.Ok.notes (L.take k)).mono (by rw [List.length_take]; omega)
    have HOK := Lib.hid hok
    have HTL : Hid (Ad.times (L.take k) o ≤ 200) := Lib.hid (Nat.le_trans (Ad.times_le _ _) (by rw [List.length_take]; omega))
    by_cases hlt : k < n
    · obtain ⟨g, off, x, rfl, hgB, e1, hx⟩ := nums_at HL.out hlt
      have e1 : wr.cell? ⟨g, off + k, none⟩ = some (.int .i64 x) := (HIN.out.below.cell (p := ⟨g, off + k, none⟩) hgB).trans e1
      have HX : Hid (Ad.notes (L.take (k + 1)) = Ad.note (Ad.notes (L.take k)) x) := Lib.hid (by rw [take_snoc' hx, Ad.notes_snoc])
      have HT : Hid (Ad.times (L.take (k + 1)) o = Ad.times (L.take k) o + (if x = o then 1 else 0)) := Lib.hid (by rw [take_snoc' hx, Ad.times_snoc])
      have HSM := Lib.hid (DrSz.of HP.out hok.len)
      have HST := Lib.hid (DrSz.of HP.out (hok.note x).len)
      have ct := fun W => HP.out.note 200 _ x W hok (by omega)
      have HPUT := Lib.hid (fun W (h : DrIn D w W b (Ad.notes (L.take k))) => h.put HP.out (hok.note x).len)
      have hw1 : IntKind.i64.wrap ((Ad.times (L.take k) o : Int) + 1) = (Ad.times (L.take k) o : Int) + 1 := IntWalk.i64_in _ (by have := HTL.out; omega)
      clear hx hok
      generalize Ad.notes (L.take k) = s at *
      generalize Ad.times (L.take k) o = t at *
      by_cases hxo : x = o
      · have he : (x == o) = true := by simp [hxo]
        have HT2 : Hid (Ad.times (L.take (k + 1)) o = t + 1) := Lib.hid (by rw [HT.out, if_pos hxo])
        clear hxo
        go_wp2_with (first
          | (refine wpList_load_mid (by rfl) 26 (.tmp 7) (by rfl) b 0 (by rfl) (D s) _ HIN.out.box.range Try.underlying26 (by rfl) HSM.out.sizeL ?_)
          | (go_at_call 7; (with_reducible refine (ct _).mono ?_); rintro e w4 ⟨rfl, hb4⟩; have HPT := Lib.hid (HPUT.out w4 (HIN.out.on hb4)); clear hb4 ct)
          | (refine wpList_store_mid (by rfl) 26 (.tmp 7) (.tmp 38) (by rfl) b 0 (D (Ad.note s x)).toArray (by rfl) (by rfl) HPT.out.there HST.out.size HST.out.one ?_; rw [List.toList_toArray]))
        go_roundw
        case rel => exact ⟨k + 1, by omega, by go_num, by rw [HT2.out]; rfl, Lib.hid (by rw [HX.out]; exact HPT.out.into)⟩
        case measure => simp [intOf]; omega
      · have he : (x == o) = false := by simp [hxo]
        have HT2 : Hid (Ad.times (L.take (k + 1)) o = t) := Lib.hid (by rw [HT.out, if_neg hxo]; rfl)
        clear hxo
        go_wp2_with (first
          | (refine wpList_load_mid (by rfl) 26 (.tmp 7) (by rfl) b 0 (by rfl) (D s) _ HIN.out.box.range Try.underlying26 (by rfl) HSM.out.sizeL ?_)
          | (go_at_call 7; (with_reducible refine (ct _).mono ?_); rintro e w4 ⟨rfl, hb4⟩; have HPT := Lib.hid (HPUT.out w4 (HIN.out.on hb4)); clear hb4 ct)
          | (refine wpList_store_mid (by rfl) 26 (.tmp 7) (.tmp 38) (by rfl) b 0 (D (Ad.note s x)).toArray (by rfl) (by rfl) HPT.out.there HST.out.size HST.out.one ?_; rw [List.toList_toArray]))
        go_roundw
        case rel => exact ⟨k + 1, by omega, by go_num, by rw [HT2.out], Lib.hid (by rw [HX.out]; exact HPT.out.into)⟩
        case measure => simp [intOf]; omega
    · have hL : L.take k = L := List.take_of_length_le (by have := HN.out.2; omega)
      rw [hL] at HIN hok HOK HTL ⊢
      have hmay := HLE.out.2
      have hST := Ad.seen_times L hmay
      obtain ⟨hn2, hcase⟩ := Ad.seen_twice hok hmay
      have hok1 := hok.note o
      have hok2 := hok1.note o
      have HSM := Lib.hid (DrSz.of HP.out hok.len)
      have HS2 := Lib.hid (DrSz.of HP.out hok2.len)
      have ca : ∀ W, Calls Try.prog 10 #[.agg (D (Ad.notes L)).toArray, .int .i64 o, .int .i64 len, .int .i64 len] W fun e w' => e = .returned (.bool (decide (2 ≤ Ad.seen (Ad.notes L) o))) ∧ Below W.heap.size W w' := fun W => by
        have h9 := HP.out.admit 200 _ o len len W hok (by omega)
        unfold Ad.admit at h9
        rw [hmay, decide_eq_true HLE.out.1, decide_eq_true (Int.le_refl len)] at h9
        exact h9
      have c1 := fun W => HP.out.note 200 _ o W hok (by omega)
      have c2 := fun W => HP.out.note 201 _ o W hok1 (by omega)
      have cc : ∀ W, Calls Try.prog 9 #[.agg (D (Ad.note (Ad.note (Ad.notes L) o) o)).toArray] W fun e w' => e = .returned (.int .i64 ((Ad.notes L).n + 2)) ∧ Below W.heap.size W w' := fun W => by
        have h9 := HP.out.count 202 _ W hok2 (by omega)
        rw [hn2] at h9
        exact h9
      have cb : ∀ W, Calls Try.prog 10 #[.agg (D (Ad.note (Ad.note (Ad.notes L) o) o)).toArray, .int .i64 o, .int .i64 len, .int .i64 len] W fun e w' => e = .returned (.bool (decide (2 ≤ Ad.seen (Ad.note (Ad.note (Ad.notes L) o) o) o))) ∧ Below W.heap.size W w' := fun W => by
        have h9 := HP.out.admit 202 _ o len len W hok2 (by omega)
        unfold Ad.admit at h9
        rw [hmay, decide_eq_true HLE.out.1, decide_eq_true (Int.le_refl len)] at h9
        exact h9
      have cd : ∀ W, Calls Try.prog 10 #[.agg (D (Ad.note (Ad.note (Ad.notes L) o) o)).toArray, .int .i64 o, .int .i64 len, .int .i64 (len - 1)] W fun e w' => e = .returned (.bool false) ∧ Below W.heap.size W w' := fun W => by
        have h9 := HP.out.admit 202 _ o len (len - 1) W hok2 (by omega)
        unfold Ad.admit at h9
        rw [decide_eq_false (show ¬ len ≤ len - 1 by omega)] at h9
        simpa using h9
      have HVR := Lib.hid (fun W hb => HVAR.out W hb _ hok2.len)
      have hn0 := hok.n0
      have hn1 := hok.n1
      clear HVAR hok hok1 hok2 hmay hL HOK hn2 HP
      generalize Ad.times L o = t at *
      generalize Ad.note (Ad.note (Ad.notes L) o) o = s2 at *
      generalize Ad.note (Ad.notes L) o = s1 at *
      obtain ⟨m, hm⟩ : ∃ m, m = (Ad.notes L).n := ⟨_, rfl⟩
      rw [← hm] at cc hcase hn0 hn1
      clear hm
      generalize Ad.seen (Ad.notes L) o = q at *
      generalize Ad.notes L = s at *
      generalize Ad.seen s2 o = q2 at *
      obtain ⟨wo, hwo⟩ : ∃ wo, wo = wr := ⟨_, rfl⟩
      have HWO := Lib.hid hwo
      clear hwo
      --TAIL<
      have hm2 : (m + 2).tmod 32 = (m + 2) % 32 := Int.tmod_eq_emod_of_nonneg (by omega)
      have hq : ∃ a b : Bool, decide (2 ≤ q) = a ∧ (a = true → decide ((t : Int) < 2) = b ∧ b = false) := by
        by_cases h : 2 ≤ q
        · exact ⟨true, false, decide_eq_true h, fun _ => ⟨decide_eq_false (by omega), rfl⟩⟩
        · exact ⟨false, false, decide_eq_false h, fun h => by simp at h⟩
      obtain ⟨qa, qb, hqa, hqb⟩ := hq
      have hr : ∃ a b : Bool, decide ((m + 2).tmod 32 < 2) = a ∧ decide (32 ≤ m + 2) = b ∧ ((a && b) = false → decide (2 ≤ q2) = true) := by
        refine ⟨_, _, rfl, rfl, fun h => ?_⟩
        rw [hm2] at h
        rcases hcase with h1 | h1
        · rw [decide_eq_true h1.1, decide_eq_true h1.2] at h
          simp at h
        · exact decide_eq_true h1
      obtain ⟨ra, rb, hra, hrb, hrc⟩ := hr
      rw [hqa] at ca
      clear hST hcase hqa hm2 hn0 hn1
      cases qa
      all_goals
        first
          | (obtain ⟨d5, rfl⟩ := hqb rfl)
          | skip
        clear hqb
        cases ra
        · have h9 := hrc (by simp)
          rw [h9] at cb
          clear hrc h9 hrb
          go_wp2_with (first
            | go_big_skip
            | (refine wpList_load_mid (by rfl) 26 (.tmp 7) (by rfl) b 0 (by rfl) (D s) _ HIN.out.box.range Try.underlying26 (by rfl) HSM.out.sizeL ?_)
            | (go_at_call 10; (with_reducible refine (ca _).mono ?_); rintro e w3 ⟨rfl, hb3⟩; have HIN3 := Lib.hid (HIN.out.on hb3); clear hb3 ca)
            | (refine wpList_load_mid (by rfl) 26 (.tmp 7) (by rfl) b 0 (by rfl) (D s) _ HIN3.out.box.range Try.underlying26 (by rfl) HSM.out.sizeL ?_)
            | (go_at_call 7; (with_reducible refine (c1 _).mono ?_); rintro e w4 ⟨rfl, hb4⟩; have HIN4 := Lib.hid (HIN3.out.on hb4); clear hb4 c1)
            | (go_at_call 7; (with_reducible refine (c2 _).mono ?_); rintro e w5 ⟨rfl, hb5⟩; have HIN5 := Lib.hid (HIN4.out.on hb5); have HV := Lib.hid (HVR.out w5 HIN5.out.below); obtain ⟨b1, hb1⟩ : ∃ b1, b1 = w5.heap.size := ⟨_, rfl⟩; obtain ⟨wn, hwn⟩ : ∃ wn, wn = (w5.alloc (.cells Z.toArray 26)).setCells b1 0 (D s2) := ⟨_, rfl⟩; have HWN := Lib.hid hwn; have HBN := Lib.hid hb1; have HJ : Hid (DrIn D w wn b1 s2) := Lib.hid (by rw [hwn, hb1]; exact HV.out.2.1); clear hb5 c2 hwn hb1)
            | (refine wpList_store_mid (by rfl) 26 (.tmp 11) (.tmp 58) (by rfl) w5.heap.size 0 (D s2).toArray (by rfl) (by rfl) HV.out.1 HS2.out.size HS2.out.one ?_; rw [List.toList_toArray, ← HBN.out, ← HWN.out])
            | (refine wpList_load_want (by rfl) 26 (.tmp 11) (by rfl) b1 0 (by rfl) (D s2) _ HJ.out.box.range Try.underlying26 (by rfl) HS2.out.sizeL ?_)
            | (go_at_call 9; (with_reducible refine (cc _).mono ?_); rintro e w6 ⟨rfl, hb6⟩; have HJ := Lib.hid (HJ.out.on hb6); clear hb6)
            | (go_at_call 10; (with_reducible refine (cb _).mono ?_); rintro e w7 ⟨rfl, hb7⟩; have HJ := Lib.hid (HJ.out.on hb7); clear hb7)
            | (go_at_call 10; (with_reducible refine (cd _).mono ?_); rintro e w8 ⟨rfl, hb8⟩; have HJ := Lib.hid (HJ.out.on hb8); clear hb8))
          go_ret
          exact ⟨rfl, HJ.out.below⟩
        · cases rb
          · have h9 := hrc (by simp)
            rw [h9] at cb
            clear hrc h9
            go_wp2_with (first
              | go_big_skip
              | (refine wpList_load_mid (by rfl) 26 (.tmp 7) (by rfl) b 0 (by rfl) (D s) _ HIN.out.box.range Try.underlying26 (by rfl) HSM.out.sizeL ?_)
              | (go_at_call 10; (with_reducible refine (ca _).mono ?_); rintro e w3 ⟨rfl, hb3⟩; have HIN3 := Lib.hid (HIN.out.on hb3); clear hb3 ca)
              | (refine wpList_load_mid (by rfl) 26 (.tmp 7) (by rfl) b 0 (by rfl) (D s) _ HIN3.out.box.range Try.underlying26 (by rfl) HSM.out.sizeL ?_)
              | (go_at_call 7; (with_reducible refine (c1 _).mono ?_); rintro e w4 ⟨rfl, hb4⟩; have HIN4 := Lib.hid (HIN3.out.on hb4); clear hb4 c1)
              | (go_at_call 7; (with_reducible refine (c2 _).mono ?_); rintro e w5 ⟨rfl, hb5⟩; have HIN5 := Lib.hid (HIN4.out.on hb5); have HV := Lib.hid (HVR.out w5 HIN5.out.below); obtain ⟨b1, hb1⟩ : ∃ b1, b1 = w5.heap.size := ⟨_, rfl⟩; obtain ⟨wn, hwn⟩ : ∃ wn, wn = (w5.alloc (.cells Z.toArray 26)).setCells b1 0 (D s2) := ⟨_, rfl⟩; have HWN := Lib.hid hwn; have HBN := Lib.hid hb1; have HJ : Hid (DrIn D w wn b1 s2) := Lib.hid (by rw [hwn, hb1]; exact HV.out.2.1); clear hb5 c2 hwn hb1)
              | (refine wpList_store_mid (by rfl) 26 (.tmp 11) (.tmp 58) (by rfl) w5.heap.size 0 (D s2).toArray (by rfl) (by rfl) HV.out.1 HS2.out.size HS2.out.one ?_; rw [List.toList_toArray, ← HBN.out, ← HWN.out])
              | (refine wpList_load_want (by rfl) 26 (.tmp 11) (by rfl) b1 0 (by rfl) (D s2) _ HJ.out.box.range Try.underlying26 (by rfl) HS2.out.sizeL ?_)
              | (go_at_call 9; (with_reducible refine (cc _).mono ?_); rintro e w6 ⟨rfl, hb6⟩; have HJ := Lib.hid (HJ.out.on hb6); clear hb6)
              | (go_at_call 10; (with_reducible refine (cb _).mono ?_); rintro e w7 ⟨rfl, hb7⟩; have HJ := Lib.hid (HJ.out.on hb7); clear hb7)
              | (go_at_call 10; (with_reducible refine (cd _).mono ?_); rintro e w8 ⟨rfl, hb8⟩; have HJ := Lib.hid (HJ.out.on hb8); clear hb8))
            go_ret
            exact ⟨rfl, HJ.out.below⟩
          · clear hrc
            go_wp2_with (first
              | go_big_skip
              | (refine wpList_load_mid (by rfl) 26 (.tmp 7) (by rfl) b 0 (by rfl) (D s) _ HIN.out.box.range Try.underlying26 (by rfl) HSM.out.sizeL ?_)
              | (go_at_call 10; (with_reducible refine (ca _).mono ?_); rintro e w3 ⟨rfl, hb3⟩; have HIN3 := Lib.hid (HIN.out.on hb3); clear hb3 ca)
              | (refine wpList_load_mid (by rfl) 26 (.tmp 7) (by rfl) b 0 (by rfl) (D s) _ HIN3.out.box.range Try.underlying26 (by rfl) HSM.out.sizeL ?_)
              | (go_at_call 7; (with_reducible refine (c1 _).mono ?_); rintro e w4 ⟨rfl, hb4⟩; have HIN4 := Lib.hid (HIN3.out.on hb4); clear hb4 c1)
              | (go_at_call 7; (with_reducible refine (c2 _).mono ?_); rintro e w5 ⟨rfl, hb5⟩; have HIN5 := Lib.hid (HIN4.out.on hb5); have HV := Lib.hid (HVR.out w5 HIN5.out.below); obtain ⟨b1, hb1⟩ : ∃ b1, b1 = w5.heap.size := ⟨_, rfl⟩; obtain ⟨wn, hwn⟩ : ∃ wn, wn = (w5.alloc (.cells Z.toArray 26)).setCells b1 0 (D s2) := ⟨_, rfl⟩; have HWN := Lib.hid hwn; have HBN := Lib.hid hb1; have HJ : Hid (DrIn D w wn b1 s2) := Lib.hid (by rw [hwn, hb1]; exact HV.out.2.1); clear hb5 c2 hwn hb1)
              | (refine wpList_store_mid (by rfl) 26 (.tmp 11) (.tmp 58) (by rfl) w5.heap.size 0 (D s2).toArray (by rfl) (by rfl) HV.out.1 HS2.out.size HS2.out.one ?_; rw [List.toList_toArray, ← HBN.out, ← HWN.out])
              | (refine wpList_load_want (by rfl) 26 (.tmp 11) (by rfl) b1 0 (by rfl) (D s2) _ HJ.out.box.range Try.underlying26 (by rfl) HS2.out.sizeL ?_)
              | (go_at_call 9; (with_reducible refine (cc _).mono ?_); rintro e w6 ⟨rfl, hb6⟩; have HJ := Lib.hid (HJ.out.on hb6); clear hb6)
              | (go_at_call 10; (with_reducible refine (cb _).mono ?_); rintro e w7 ⟨rfl, hb7⟩; have HJ := Lib.hid (HJ.out.on hb7); clear hb7)
              | (go_at_call 10; (with_reducible refine (cd _).mono ?_); rintro e w8 ⟨rfl, hb8⟩; have HJ := Lib.hid (HJ.out.on hb8); clear hb8))
            go_ret
            exact ⟨rfl, HJ.out.below⟩
      --TAIL>
end Go.Proofs.Ytopkhmbgdhpgeaa
