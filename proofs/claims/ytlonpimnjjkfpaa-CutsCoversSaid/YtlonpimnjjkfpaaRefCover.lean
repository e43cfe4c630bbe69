/-
  Contract of the document's own Cover.
-/
import Derived.Test.YtlonpimnjjkfpaaCutsRef
import Derived.Test.YtlonpimnjjkfpaaSpans
import Derived.Test.YtlonpimnjjkfpaaIntVals
import Derived.LoopTactic
namespace Go.Proofs.Ytlonpimnjjkfpaa
open Go.ChangeShapes Go.WideShapes Go.ChangeAt Go.RowKit

theorem int_infoC : (Try.prog.info? 3).map (fun i => (i.zero, i.size, i.bytes)) = some (some (.int .i64 0), 1, 8) := by kernel_rfl
theorem own_atC {w w' : World} {base size : Nat} {T : TypeId} {v : Value} {n : Nat} {xs : List Value} (h : w.ownsRow base T size v n xs) (hb : Below w.heap.size w w') : w'.ownsRow base T size v n xs :=
  h.kept (row := none) ⟨hb.os, hb.tape, hb.output, hb.size, fun k hk _ => hb.block k hk⟩ (Classical.em _)
/-- the slices that have a byte of L, as a row of the call's own -/
def CovTo (l : List Int) (w : World) (e : Ending) (w' : World) : Prop :=
  ∃ A c, e = .returned (.slice A l.length c) ∧ Vs w' w'.heap.size A l.length (nums .i64 l) ∧ l.length ≤ c ∧ Below w.heap.size w w'

theorem field1S (a b : Int) (W : World) : (Instr.field 23 (.agg #[.int .i64 a, .int .i64 b]) 1).run Try.prog W = .ok (.int .i64 b) W := by kernel_rfl
theorem hit_of {L : List (Int × Int)} {N S : Int} {k : Nat} {x y : Int} (h : Cu.bd k N S = (x, y)) {n j : Nat} (hl : L.length = n) (hj : ¬ j < n) {q : Bool} (hq : q = (L.take j).any fun p => Cu.meets p.1 p.2 x y) : Cu.hit L N S k = q := by
  unfold Cu.hit
  rw [hq, h, List.take_of_length_le (by omega)]
set_option maxHeartbeats 2000000 in
theorem refCover_walk (A : Option Addr) (n c B : Nat) (L : List (Int × Int)) (N S : Int) (w : World) (h : Sps w B A n L) (hB : B ≤ w.heap.size) (hn : n ≤ 9223372036854775807)
    (cb : ∀ (i : Int) W, Calls Try.prog 8 #[.int .i64 i, .int .i64 N, .int .i64 S] W fun e w' => e = .returned (.agg #[.int .i64 (Cu.bd i N S).1, .int .i64 (Cu.bd i N S).2]) ∧ Below W.heap.size W w')
    (cm : ∀ (a b c d : Int) W, Calls Try.prog 10 #[.agg #[.int .i64 a, .int .i64 b], .agg #[.int .i64 c, .int .i64 d]] W fun e w' => e = .returned (.agg #[.int .i64 (Cu.meet a b c d).1, .int .i64 (Cu.meet a b c d).2]) ∧ Below W.heap.size W w') :
    Calls Try.prog 19 #[.slice A n c, .int .i64 N, .int .i64 S] w (CovTo (Cu.cover L N S (Cu.cnt N S).toNat) w) := by
  have HL : Hid (L.length = n) := Lib.hid h.1
  have HC := Lib.hid h
  have HK := Lib.hid (Cu.cnt_le N S)
  clear h
  obtain ⟨i0, hi, hz0, hz1, hz2⟩ := info_parts int_infoC
  have HI0 := Lib.hid hi
  have HZ := Lib.hid hz0
  have HSZ := Lib.hid hz1
  have HBY := Lib.hid hz2
  clear hi hz0 hz1 hz2
  have fl := field1S
  go_enter Try.func19, Try.ntmps19
  go_wp2
  go_loopw [7, 8] (fun v i wr => ∃ k : Nat, k ≤ 4096 ∧ i = .int .i64 k ∧ Hid ((k : Int) ≤ Cu.cnt N S) ∧ Hid (wr.ownsRow w.heap.size 3 1 v (Cu.cover L N S k).length (nums .i64 (Cu.cover L N S k))) ∧ Hid (Below w.heap.size w wr)) (fun _ i _ => 4097 - (intOf i).toNat)
  case atStart => exact ⟨0, by omega, rfl, Lib.hid HK.out.1, Lib.hid ⟨rfl, .inl ⟨rfl, rfl⟩⟩, Lib.hid (Below.refl _ _)⟩
  case round =>
    obtain ⟨k, hk, rfl, HT, HO, HB⟩ := hrel
    have hk4 : (k : Int) ≤ 4096 := by omega
    have hh := Cu.has_cnt k N S (by omega)
    have cb0 := cb k
    clear cb
    by_cases hlt : (k : Int) < Cu.cnt N S
    · rw [decide_eq_true hlt] at hh
      have hin := Cu.bd_in hh
      have HX : Hid (Cu.bd k N S = Cu.bd k N S) := Lib.hid rfl
      generalize hxy : Cu.bd k N S = bd at cb0 hin
      obtain ⟨x, y⟩ := bd
      dsimp only at cb0 hin
      replace HX := Lib.hid hxy
      have hy1 : (y == 0) = false := by have := hin.1; have := hin.2.1; simp; omega
      have HLT := Lib.hid hlt
      clear hlt hh hxy hin
      go_wp2_with (go_at_call 8; refine (cb0 _).mono ?_; rintro e w1 ⟨rfl, hb⟩; replace HO := Lib.hid (own_atC HO.out hb); replace HB := Lib.hid (HB.out.trans (hb.mono HB.out.size)); clear hb cb0)
      go_loopw [10, 26] (fun t i wi => ∃ (j : Nat) (q : Bool), j ≤ n ∧ i = .int .i64 j ∧ t = .bool q ∧ Hid (q = (L.take j).any fun p => Cu.meets p.1 p.2 x y) ∧ Hid (Below (w1.heap.size + 1) (w1.alloc (.cells #[.int .i64 x, .int .i64 y] 23)) wi)) (fun _ i _ => n - (intOf i).toNat)
      case atStart => exact ⟨0, false, by omega, rfl, rfl, Lib.hid rfl, Lib.hid (Below.refl _ _)⟩
      case round =>
        obtain ⟨j, q, hj, rfl, rfl, HQ, HI⟩ := hrel
        have HBi : Hid (Below w.heap.size w wr) := Lib.hid ((HB.out.alloc HB.out.size _).trans (HI.out.mono (by have := HB.out.size; omega)))
        by_cases hjn : j < n
        · have hjl : j < L.length := by rw [HL.out]; exact hjn
          obtain ⟨b, off, rfl, hbB, hc⟩ := (HC.out.below (HBi.out.mono hB)).2 (by omega)
          obtain ⟨e0, e1⟩ := hc j hjl
          have HD : Hid (Duo wr w1.heap.size (.int .i64 x) (.int .i64 y)) := Lib.hid ((Duo.new w1 (.int .i64 x) (.int .i64 y) 23).below (HI.out.mono (by simp)))
          obtain ⟨m0, d0, d1, f0, f1⟩ := HD.out
          have HS := any_snoc (f := fun p : Int × Int => Cu.meets p.1 p.2 x y) hjl
          generalize L[j] = p at e0 e1 HS
          obtain ⟨pa, pb⟩ := p
          dsimp only at e0 e1 HS
          rw [← HQ.out] at HS
          have cm0 := cm pa pb x y
          have hm := Cu.meet_to pa pb x y
          generalize Cu.meet pa pb x y = mt at cm0 hm
          obtain ⟨z, t⟩ := mt
          dsimp only at cm0 hm
          rw [← hm] at HS
          replace HS := Lib.hid HS
          have HG := Lib.hid hm
          clear hc cm hm hbB
          cases q with
          | true =>
            clear cm0 HG
            go_wp2
            go_roundw
            case rel => exact ⟨j + 1, true, by omega, by go_num, rfl, Lib.hid (by rw [HS.out]; rfl), Lib.hid (HI.out.alloc m0 _)⟩
            case measure => simp [intOf]; omega
          | false =>
            by_cases ht : 0 < t
            · have HT0 := Lib.hid (decide_eq_true ht)
              go_wp2_with (go_at_call 10; refine (cm0 _).mono ?_; rintro e w2 ⟨rfl, hb⟩; replace HI := Lib.hid ((HI.out.alloc m0 _).trans (hb.mono (by simp; omega))); clear hb cm0)
              go_roundw
              case rel => exact ⟨j + 1, true, by omega, by go_num, rfl, Lib.hid (by rw [HS.out, HT0.out]; rfl), HI⟩
              case measure => simp [intOf]; omega
            · go_wp2_with (go_at_call 10; refine (cm0 _).mono ?_; rintro e w2 ⟨rfl, hb⟩; replace HI := Lib.hid ((HI.out.alloc m0 _).trans (hb.mono (by simp; omega))); clear hb cm0)
              go_roundw
              case rel => exact ⟨j + 1, decide (0 < t), by omega, by go_num, rfl, Lib.hid (by rw [HS.out]; rfl), HI⟩
              case measure => simp [intOf]; omega
        · have HIT := Lib.hid (hit_of HX.out HL.out hjn HQ.out)
          have HO1 := Lib.hid (own_atC (HO.out.alloc (.cells #[.int .i64 x, .int .i64 y] 23)) (HI.out.mono (by simp)))
          have HT1 : Hid (((k + 1 : Nat) : Int) ≤ Cu.cnt N S) := Lib.hid (by have := HLT.out; omega)
          have hk1 : k + 1 ≤ 4096 := by have := HLT.out; have := HK.out.2; omega
          have hsz := HBi.out.size
          cases q with
          | false =>
            go_wp2
            go_roundw
            case rel => exact ⟨k + 1, hk1, by go_num, HT1, by rw [Cu.cover_no HIT.out]; exact HO1, HBi⟩
            case measure => simp [intOf]; omega
          | true =>
            have hlen := Cu.cover_le L N S k
            have hl1 : (Cu.cover L N S k).length + 1 ≤ 9223372036854775807 := by omega
            have hl2 : ((Cu.cover L N S k).length + 1) * 8 ≤ 140737488355328 := by omega
            go_wp2_with (refine wpList_append_vals (o := ⟨some 43, _, _, _, _, _⟩) rfl (.tmp 40) (.tmp 42) 38 rfl w.heap.size 3 i0 (.int .i64 0) 8 Try.underlying38 HI0.out HZ.out HSZ.out HBY.out rfl _ (Cu.cover L N S k).length _ rfl (HO1.out.alloc _) (wr.heap.size + 1) (some ⟨wr.heap.size, 0, none⟩) 1 1 [.int .i64 k] rfl (Vs.new _ _ _ _) (by simp [Value.oneCell']) hl1 hl2 (HBi.out.alloc hsz _).size ?_; intro v' w2 hown hgrow)
            have HB2 : Below w.heap.size w w2 := (HBi.out.alloc hsz _).grown hgrow.out (HBi.out.alloc hsz _).size (fun k h => (HO1.out.lt k h).1)
            refine ⟨⟨k + 1, hk1, by go_num, HT1, ?_, Lib.hid HB2⟩, by simp [intOf]; omega⟩
            rw [Cu.cover_yes HIT.out, List.length_append, ← nums_append]
            exact hown
    · rw [decide_eq_false hlt] at hh
      rw [Cu.bd_no hh] at cb0
      have HE : Hid ((Cu.cnt N S).toNat = k) := Lib.hid (by have := HT.out; omega)
      clear hlt hh
      go_wp2_with (go_at_call 8; refine (cb0 _).mono ?_; rintro e w1 ⟨rfl, hb⟩; replace HO := Lib.hid (own_atC HO.out hb); replace HB := Lib.hid (HB.out.trans (hb.mono HB.out.size)); clear hb cb0)
      obtain ⟨A', c', rfl, hv, hc'⟩ := Vs.of_own HO.out
      go_ret
      unfold CovTo
      rw [HE.out]
      exact ⟨A', c', rfl, (hv.alloc (Nat.le_refl _) _).mono (by simp), hc', HB.out.alloc HB.out.size _⟩
theorem refCover_any (A : Option Addr) (n c B : Nat) (L : List (Int × Int)) (N S : Int) (w : World) (h : Sps w B A n L) (hB : B ≤ w.heap.size) (hn : n ≤ 9223372036854775807) :
    Calls Try.prog 19 #[.slice A n c, .int .i64 N, .int .i64 S] w (CovTo (Cu.cover L N S (Cu.cnt N S).toNat) w) :=
  refCover_walk A n c B L N S w h hB hn (fun i W => refBounds_any i N S W) (fun a b c d W => refMeet_any a b c d W)
end Go.Proofs.Ytlonpimnjjkfpaa
