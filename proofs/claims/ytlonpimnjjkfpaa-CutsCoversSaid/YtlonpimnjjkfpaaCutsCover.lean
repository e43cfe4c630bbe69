/-
  Contract of cuts.Cover.
-/
import Derived.Test.YtlonpimnjjkfpaaCutsPast
import Derived.Test.YtlonpimnjjkfpaaCuts
namespace Go.Proofs.Ytlonpimnjjkfpaa
open Go.ChangeShapes Go.WideShapes Go.ChangeAt Go.RowKit

theorem Vs.new3 (w : World) (o : Obj) (m : Nat) (t : TypeId) (u : Value) : Vs (((w.alloc o).drewN m).alloc (.cells #[u] t)) (w.heap.size + 1 + 1) (some ⟨w.heap.size + 1, 0, none⟩) 1 [u] := by
  have h := Vs.new ((w.alloc o).drewN m) t (0, 0) #[u]
  rw [show ((w.alloc o).drewN m).heap.size = w.heap.size + 1 by show (w.alloc o).heap.size = _; simp] at h
  exact h
theorem sps_back {w w' : World} {B n : Nat} {A : Option Addr} {X : List (Int × Int)} (h : Sps w' B A n X) (hb : Below B w w') : Sps w B A n X :=
  ⟨h.1, fun hn => by
    obtain ⟨b, off, e, hB, hc⟩ := h.2 hn
    exact ⟨b, off, e, hB, fun j hj => ⟨(hb.cell (p := ⟨b, off + j * 2, none⟩) hB).symm.trans (hc j hj).1, (hb.cell (p := ⟨b, off + j * 2 + 1, none⟩) hB).symm.trans (hc j hj).2⟩⟩⟩
set_option maxHeartbeats 4000000 in
theorem cover_walk (A : Option Addr) (n c : Nat) (L : List (Int × Int)) (N S : Int) (w : World) (hn : L.length ≤ 1000000)
    (cm : Calls Try.prog 23 #[.slice A n c, .int .i64 0] w (MrgTo 0 L w))
    (cc : ∀ W, Calls Try.prog 15 #[.int .i64 N, .int .i64 S] W fun e w' => e = .returned (.int .i64 (Cu.cnt N S)) ∧ W = w')
    (cb : ∀ (i : Int) W, Calls Try.prog 7 #[.int .i64 i, .int .i64 N, .int .i64 S] W fun e w' => e = .returned (.tuple #[.agg #[.int .i64 (Cu.bd i N S).1, .int .i64 (Cu.bd i N S).2], .bool (Cu.has i N S)]) ∧ Below W.heap.size W w') :
    Calls Try.prog 18 #[.slice A n c, .int .i64 N, .int .i64 S] w (CovTo (Cu.cover L N S (Cu.cnt N S).toNat) w) := by
  have HK := Lib.hid (Cu.cnt_le N S)
  have HN := Lib.hid hn
  clear hn
  obtain ⟨i0, hi, hz0, hz1, hz2⟩ := info_parts int_infoC
  have HI0 := Lib.hid hi
  have HZ := Lib.hid hz0
  have HSZ := Lib.hid hz1
  have HBY := Lib.hid hz2
  clear hi hz0 hz1 hz2
  go_enter Try.func18, Try.ntmps18
  go_wp2_with (first
    | (go_at_call 23; refine cm.mono ?_; rintro e w1 ⟨M, v, rfl, hm, ho, hl, hb⟩; obtain ⟨A1, c1, rfl, hs, hc1⟩ := ho.sps; have HM := Lib.hid hm; have HL := Lib.hid hl; have HV := Lib.hid hs; have HC1 := Lib.hid hc1; have HB0 := Lib.hid hb; clear hm ho hl hb hs hc1 cm)
    | (go_at_call 15; refine (cc _).mono ?_; rintro e w2 ⟨rfl, rfl⟩; clear cc))
  have hM : M.length ≤ 1000000 := Nat.le_trans HL.out HN.out
  go_loopw [7, 8, 17] (fun v r i wr => ∃ (k j m : Nat) (A2 : Option Addr) (c2 : Nat), k ≤ 4096 ∧ i = .int .i64 k ∧ Hid ((k : Int) ≤ Cu.cnt N S) ∧ r = .slice A2 m c2 ∧ Hid (m + j = M.length) ∧ Hid (m ≤ c2) ∧ Hid (Sps w1 w1.heap.size A2 m (M.drop j)) ∧
      Hid (∀ q (hq : q < M.length), q < j → M[q].2 ≤ (k : Int) * S) ∧ Hid (wr.ownsRow w1.heap.size 3 1 v (Cu.cover L N S k).length (nums .i64 (Cu.cover L N S k))) ∧ Hid (Below w1.heap.size w1 wr)) (fun _ _ i _ => 4097 - (intOf i).toNat)
  case atStart => exact ⟨0, 0, M.length, A1, c1, by omega, rfl, Lib.hid HK.out.1, rfl, Lib.hid rfl, HC1, HV, Lib.hid (fun q _ h => absurd h (by omega)), Lib.hid ⟨rfl, .inl ⟨rfl, rfl⟩⟩, Lib.hid (Below.refl _ _)⟩
  case round =>
    obtain ⟨k, j, m, A2, c2, hk, rfl, HT, rfl, HJ, HC2, HS, HQ, HO, HB⟩ := hrel
    have hk4 : (k : Int) ≤ 4096 := by omega
    by_cases hlt : (k : Int) < Cu.cnt N S
    · have hh := Cu.has_cnt k N S (by omega)
      rw [decide_eq_true hlt] at hh
      have cb0 := cb k
      rw [hh] at cb0
      have hin := Cu.bd_in hh
      have hfrom : (Cu.bd k N S).1 = (k : Int) * S := by rw [Cu.bd_yes hh]
      have hsz := HB.out.size
      have HH := Lib.hid hh
      have HT1 : Hid (((k + 1 : Nat) : Int) ≤ Cu.cnt N S) := Lib.hid (by omega)
      have hk1 : k + 1 ≤ 4096 := by have := HK.out.2; omega
      have HHIT : Hid (∀ j2, (∀ i (hi : i < M.length), i < j2 → M[i].2 ≤ (Cu.bd k N S).1) → (∀ hi : j2 < M.length, (Cu.bd k N S).1 < M[j2].2) → Cu.hit L N S k = (if hi : j2 < M.length then decide (M[j2].1 < (Cu.bd k N S).2) else false)) := Lib.hid fun j2 h1 h2 => Mg.hit_made HM.out HH.out h1 h2
      rw [← hfrom] at HQ
      have HNX : Hid ((Cu.bd k N S).1 ≤ ((k + 1 : Nat) : Int) * S) := Lib.hid (by
        obtain ⟨g1, g2, g3⟩ := Cu.has_parts hh
        obtain ⟨_, _, g4, _⟩ := Cu.ok_parts g1
        rw [hfrom, show ((k + 1 : Nat) : Int) = (k : Int) + 1 by omega, Int.add_mul, Int.one_mul]
        omega)
      generalize Cu.bd k N S = bd at cb0 hin HQ HHIT HNX
      obtain ⟨x, y⟩ := bd
      dsimp only at cb0 hin HQ HHIT HNX
      obtain ⟨b1, b2, b3, b4, b5⟩ := hin
      clear hh hfrom cb
      go_wp2_with (first
        | (go_at_call 7; refine (cb0 _).mono ?_; rintro e w3 ⟨rfl, hb⟩; have HO3 := Lib.hid (own_atC (HO.out) hb); have HB3 := Lib.hid (HB.out.trans (hb.mono hsz)); have hs3 : w1.heap.size ≤ w3.heap.size := HB3.out.size; have HB4 := Lib.hid (HB3.out.alloc hs3 (.cells #[.int .i64 x, .int .i64 y] 23)); have HO4 := Lib.hid (HO3.out.alloc (.cells #[.int .i64 x, .int .i64 y] 23)); clear hb cb0)
        | (go_at_call 24; refine (past_any _ _ _ _ j M x _ (HS.out.below HB4.out) HJ.out HC2.out hM HQ.out).mono ?_; rintro e w4 ⟨rfl, j2, m2, A3, c3, rfl, h1, h2, h3, h4, h5⟩; have HJ2 := Lib.hid h1; have HC3 := Lib.hid h2; have HS1 := Lib.hid (sps_back h3 HB4.out); have HS3 := Lib.hid h3; have H4 := Lib.hid h4; have H5 := Lib.hid h5; clear h1 h2 h3 h4 h5))
      have hlen := Cu.cover_le L N S k
      have HIT := Lib.hid (HHIT.out j2 H4.out H5.out)
      have HQ2 : Hid (∀ q (hq : q < M.length), q < j2 → M[q].2 ≤ ((k + 1 : Nat) : Int) * S) := Lib.hid fun q hq hqj => by
        have := H4.out q hq hqj
        have := HNX.out
        omega
      rcases Nat.eq_zero_or_pos m2 with rfl | hpos
      · have HNO : Hid (Cu.hit L N S k = false) := Lib.hid (by rw [HIT.out, dif_neg (by have := HJ2.out; omega)])
        go_quiet (fail)
        go_wp2
        go_roundw
        case rel => exact ⟨k + 1, j2, 0, A3, c3, hk1, by go_num, HT1, rfl, HJ2, HC3, HS1, HQ2, by rw [Cu.cover_no HNO.out]; exact Lib.hid (own_drewN HO4.out nq), Lib.hid (below_drewN HB4.out nq)⟩
        case measure => simp [intOf]; omega
      · obtain ⟨b, off, rfl, -, hx⟩ := HS3.out.2 hpos
        have hjl : j2 < M.length := by have := HJ2.out; omega
        obtain ⟨x0, -⟩ := hx 0 (by simp; omega)
        rw [List.getElem_drop] at x0
        simp only [Nat.add_zero, Nat.zero_mul] at x0
        have hit := HIT.out
        rw [dif_pos hjl] at hit
        replace HIT := Lib.hid hit
        obtain ⟨m7, x7, y7, -, -⟩ := Duo.new w3 (.int .i64 x) (.int .i64 y) 23
        have hm2 : decide ((0 : Int) < (m2 : Int)) = true := decide_eq_true (by omega)
        have hm3 : (0 : Int) < (m2 : Int) := by omega
        generalize M[j2] = p at x0 HIT hit
        clear hx hit
        obtain ⟨t, ht⟩ : ∃ t, decide (p.1 < y) = t := ⟨_, rfl⟩
        rw [ht] at HIT
        cases t with
        | false =>
          go_quiet (fail)
          go_wp2
          go_roundw
          case rel => exact ⟨k + 1, j2, m2, _, c3, hk1, by go_num, HT1, rfl, HJ2, HC3, HS1, HQ2, by rw [Cu.cover_no HIT.out]; exact Lib.hid (own_drewN HO4.out nq), Lib.hid (below_drewN HB4.out nq)⟩
          case measure => simp [intOf]; omega
        | true =>
          have hl1 : (Cu.cover L N S k).length + 1 ≤ 9223372036854775807 := by omega
          have hl2 : ((Cu.cover L N S k).length + 1) * 8 ≤ 140737488355328 := by omega
          have hs4 : w1.heap.size ≤ (w3.alloc (.cells #[.int .i64 x, .int .i64 y] 23)).heap.size := HB4.out.size
          go_quiet (fail)
          go_wp2_with (at_builtin; refine wpList_append_vals (o := ⟨some 46, _, _, _, _, _⟩) rfl (.tmp 43) (.tmp 45) 38 rfl w1.heap.size 3 i0 (.int .i64 0) 8 Try.underlying38 HI0.out HZ.out HSZ.out HBY.out rfl _ (Cu.cover L N S k).length _ rfl (World.ownsRow.alloc (own_drewN HO4.out nq) _) (w3.heap.size + 1 + 1) (some ⟨w3.heap.size + 1, 0, none⟩) 1 1 [.int .i64 k] rfl (Vs.new3 w3 _ nq _ _) (by simp [Value.oneCell']) hl1 hl2 ((below_drewN HB4.out nq).alloc hs4 _).size ?_; intro v' w5 hown hgrow)
          go_roundw
          case rel =>
            have hb2 := (below_drewN HB4.out nq).alloc hs4 (.cells #[.int .i64 k] 3)
            refine ⟨k + 1, j2, m2, _, c3, hk1, by go_num, HT1, rfl, HJ2, HC3, HS1, HQ2, ?_, Lib.hid (hb2.grown hgrow.out hb2.size (fun q hq => (HO4.out.lt q hq).1))⟩
            rw [Cu.cover_yes HIT.out, List.length_append, ← nums_append]
            exact hown
          case measure => simp [intOf]; omega
    · have HE : Hid ((Cu.cnt N S).toNat = k) := Lib.hid (by have := HT.out; omega)
      obtain ⟨A', c', rfl, hv, hc'⟩ := Vs.of_own HO.out
      go_wp2
      go_ret
      unfold CovTo
      rw [HE.out]
      exact ⟨A', c', rfl, hv, hc', HB0.out.trans (HB.out.mono HB0.out.size)⟩
theorem cover_any (A : Option Addr) (n c B : Nat) (L : List (Int × Int)) (N S : Int) (w : World) (h : Sps w B A n L) (hB : B ≤ w.heap.size) (hn : n ≤ 1000000) :
    Calls Try.prog 18 #[.slice A n c, .int .i64 N, .int .i64 S] w (CovTo (Cu.cover L N S (Cu.cnt N S).toNat) w) :=
  cover_walk A n c L N S w (by have := h.1; omega) (merge_any A n c B L 0 w h hB hn (Int.le_refl 0)) (fun W => cutsCount_any N S W) (fun i W => cutsBounds_any i N S W)
end Go.Proofs.Ytlonpimnjjkfpaa
