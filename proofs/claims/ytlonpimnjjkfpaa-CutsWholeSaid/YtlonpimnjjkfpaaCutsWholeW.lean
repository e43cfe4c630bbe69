/-
  The walk of CutsWhole.
-/
import Derived.Test.YtlonpimnjjkfpaaCutsForms
import Derived.LoopTactic
import Derived.IntWalk
namespace Go.Proofs.Ytlonpimnjjkfpaa
open Go.ChangeShapes Go.WideShapes Go.ChangeAt Go.RowKit

/-- where the first k slices end; whether a byte is within them -/
def Cu.edge (n s k : Int) : Int := min (k * s) n
def Cu.inn (n s k x : Int) : Int := if 0 ≤ x ∧ x < Cu.edge n s k then 1 else 0
theorem Cu.edge_zero {n s : Int} (h : 0 ≤ n) : Cu.edge n s 0 = 0 := by unfold Cu.edge; omega
theorem Cu.edge_cnt {n s : Int} (h : Cu.ok n s = true) : Cu.edge n s (Cu.cnt n s) = n := by
  obtain ⟨h1, h2, h3, h4⟩ := Cu.ok_parts h
  have h5 := Cu.has_cnt (Cu.cnt n s) n s (Cu.cnt_le n s).1
  rw [decide_eq_false (by omega)] at h5
  unfold Cu.edge
  have : ¬ Cu.cnt n s * s < n := fun hc => by
    rw [Cu.has_of h (Cu.cnt_le n s).1 hc] at h5
    cases h5
  omega
theorem Cu.bd_edge {n s k : Int} (h : Cu.has k n s = true) : Cu.bd k n s = (Cu.edge n s k, Cu.edge n s (k + 1)) := by
  obtain ⟨h1, h2, h3⟩ := Cu.has_parts h
  rw [Cu.bd_yes h]
  unfold Cu.edge
  rw [Int.add_mul, Int.one_mul, show min (k * s) n = k * s by omega]
theorem Cu.inn_in {n s k x : Int} (h : Cu.edge n s k ≤ x ∧ x < Cu.edge n s (k + 1)) (h0 : 0 ≤ Cu.edge n s k) : Cu.inn n s k x = 0 ∧ Cu.inn n s (k + 1) x = 1 := by
  unfold Cu.inn
  exact ⟨if_neg (by omega), if_pos (by omega)⟩
theorem Cu.inn_out {n s k x : Int} (h : ¬ (Cu.edge n s k ≤ x ∧ x < Cu.edge n s (k + 1))) (h0 : Cu.edge n s k < Cu.edge n s (k + 1)) : Cu.inn n s (k + 1) x = Cu.inn n s k x := by
  unfold Cu.inn
  by_cases h1 : 0 ≤ x ∧ x < Cu.edge n s k
  · rw [if_pos h1, if_pos (by omega)]
  · rw [if_neg h1, if_neg (by omega)]
theorem Cu.inn_le (n s k x : Int) : 0 ≤ Cu.inn n s k x ∧ Cu.inn n s k x ≤ 1 := by
  unfold Cu.inn
  split <;> omega
theorem Cu.cnt_n {n s : Int} (h : Cu.ok n s = true) : Cu.cnt n s ≤ n := by
  obtain ⟨h1, h2, h3, h4⟩ := Cu.ok_parts h
  rcases Int.lt_or_le n (Cu.cnt n s) with hq | hq
  · have h5 := Cu.has_cnt n n s h1
    rw [decide_eq_true hq] at h5
    have := (Cu.has_parts h5).2.2
    have := Cu.mul_ge h1 h3
    omega
  · exact hq

set_option maxHeartbeats 2000000 in
theorem cutsWhole_on (hbd : CutsBounds) (hcn : CutsCount) (hls : CutsLast) (N S x : Int) (w : World) (hN : I64 N) (hS : I64 S) (hx : I64 x) :
    Calls Try.prog 5 #[.int .i64 N, .int .i64 S, .int .i64 x] w fun e w' => e = .returned (.bool true) ∧ Below w.heap.size w w' := by
  have ca := fun W => cuts_awake hbd W
  have cc := fun W => refCuts_any N S W
  have cn := fun W => hcn N S W hN hS
  have HB := Lib.hid (Below.refl w.heap.size w)
  have hx1 := hx.1
  have hx2 := hx.2
  cases hok : Cu.ok N S with
  | false =>
    have cl := fun W => hls N S W hN hS
    have h0 : Cu.cnt N S = 0 := by unfold Cu.cnt; rw [hok]; rfl
    have h1 : Cu.last N S = 0 := by unfold Cu.last; rw [Cu.bd_no (by unfold Cu.has; rw [hok]; rfl)]; rfl
    rw [hok] at cc
    rw [h0] at cn
    rw [h1] at cl
    clear hbd hcn hls h0 h1
    go_enter Try.func5, Try.ntmps5
    go_wp2_with (first
      | (go_at_call 6; refine (ca _).mono ?_; rintro e w1 ⟨rfl, hb⟩; replace HB := Lib.hid (HB.out.trans (hb.mono HB.out.size)); clear hb ca)
      | (go_at_call 12; refine (cc _).mono ?_; rintro e w2 ⟨rfl, rfl⟩)
      | (go_at_call 15; refine (cn _).mono ?_; rintro e w3 ⟨rfl, hb⟩; replace HB := Lib.hid (HB.out.trans (hb.mono HB.out.size)); clear hb)
      | (go_at_call 16; refine (cl _).mono ?_; rintro e w4 ⟨rfl, hb⟩; replace HB := Lib.hid (HB.out.trans (hb.mono HB.out.size)); clear hb))
    go_ret
    exact ⟨rfl, HB.out⟩
  | true =>
    obtain ⟨hn0, hn1, hs0, hs1⟩ := Cu.ok_parts hok
    have HK := Lib.hid (Cu.cnt_le N S)
    have HOK := Lib.hid hok
    have HBD := Lib.hid hbd
    rw [hok] at cc
    clear hbd hcn hls hok
    go_enter Try.func5, Try.ntmps5
    go_wp2_with (first
      | (go_at_call 6; refine (ca _).mono ?_; rintro e w1 ⟨rfl, hb⟩; replace HB := Lib.hid (HB.out.trans (hb.mono HB.out.size)); clear hb ca)
      | (go_at_call 12; refine (cc _).mono ?_; rintro e w2 ⟨rfl, rfl⟩; clear cc))
    go_loopw [7, 8, 9] (fun e t i wr => ∃ k : Nat, i = .int .i64 k ∧ Hid ((k : Int) ≤ Cu.cnt N S) ∧ e = .int .i64 (Cu.edge N S k) ∧ t = .int .i64 (Cu.inn N S k x) ∧ Hid (Below w.heap.size w wr)) (fun _ _ i _ => 4097 - (intOf i).toNat)
    case atStart => exact ⟨0, rfl, Lib.hid HK.out.1, by show _ = Value.int .i64 (Cu.edge N S 0); rw [Cu.edge_zero hn0], by show _ = Value.int .i64 (Cu.inn N S 0 x); unfold Cu.inn; rw [Cu.edge_zero hn0, if_neg (by omega)], HB⟩
    case round =>
      obtain ⟨k, rfl, HT, rfl, rfl, HBw⟩ := hrel
      have hk0 : (k : Int) ≤ 4096 := by have := HT.out; have := HK.out.2; omega
      by_cases hlt : (k : Int) < Cu.cnt N S
      · have hh := Cu.has_cnt k N S (by omega)
        rw [decide_eq_true hlt] at hh
        have hin := Cu.bd_in hh
        have hbe := Cu.bd_edge hh
        rw [hbe] at hin
        have cbd := fun W => HBD.out k N S W ⟨by omega, by omega⟩ hN hS
        rw [hh, hbe] at cbd
        dsimp only at hin cbd
        obtain ⟨e1, e2, e3, e4, -⟩ := hin
        have hkn : (k : Int) ≤ N := by have := Cu.cnt_n HOK.out; omega
        have hil := Cu.inn_le N S k x
        have HT1 : Hid (((k + 1 : Nat) : Int) ≤ Cu.cnt N S) := Lib.hid (by omega)
        have hc1 : ((k + 1 : Nat) : Int) = (k : Int) + 1 := by omega
        have HC1 := Lib.hid hc1
        by_cases hb : Cu.edge N S k ≤ x ∧ x < Cu.edge N S (k + 1)
        · have HI := Lib.hid (Cu.inn_in hb e1)
          obtain ⟨b1, b2⟩ := hb
          clear hh hbe hc1
          go_wp2_with (first
          | (go_at_call 15; refine (cn _).mono ?_; rintro e w3 ⟨rfl, hb⟩; replace HBw := Lib.hid (HBw.out.trans (hb.mono HBw.out.size)); clear hb)
          | (go_at_call 7; refine (cbd _).mono ?_; rintro e w4 ⟨rfl, hb⟩; replace HBw := Lib.hid (HBw.out.trans (hb.mono HBw.out.size)); clear hb))
          go_roundw
          case rel => exact ⟨k + 1, by go_num, HT1, by rw [HC1.out], by rw [HC1.out, HI.out.2, HI.out.1]; rfl, Lib.hid (HBw.out.alloc HBw.out.size _)⟩
          case measure => simp [intOf]; omega
        · have HI := Lib.hid (Cu.inn_out hb e2)
          clear hh hbe hc1
          by_cases b1 : Cu.edge N S k ≤ x
          · have b2 : Cu.edge N S (k + 1) ≤ x := by omega
            clear hb
            go_wp2_with (first
            | (go_at_call 15; refine (cn _).mono ?_; rintro e w3 ⟨rfl, hb⟩; replace HBw := Lib.hid (HBw.out.trans (hb.mono HBw.out.size)); clear hb)
            | (go_at_call 7; refine (cbd _).mono ?_; rintro e w4 ⟨rfl, hb⟩; replace HBw := Lib.hid (HBw.out.trans (hb.mono HBw.out.size)); clear hb))
            go_roundw
            case rel => exact ⟨k + 1, by go_num, HT1, by rw [HC1.out], by rw [HC1.out, HI.out], Lib.hid (HBw.out.alloc HBw.out.size _)⟩
            case measure => simp [intOf]; omega
          · have b2 : x < Cu.edge N S k := by omega
            clear hb
            go_wp2_with (first
            | (go_at_call 15; refine (cn _).mono ?_; rintro e w3 ⟨rfl, hb⟩; replace HBw := Lib.hid (HBw.out.trans (hb.mono HBw.out.size)); clear hb)
            | (go_at_call 7; refine (cbd _).mono ?_; rintro e w4 ⟨rfl, hb⟩; replace HBw := Lib.hid (HBw.out.trans (hb.mono HBw.out.size)); clear hb))
            go_roundw
            case rel => exact ⟨k + 1, by go_num, HT1, by rw [HC1.out], by rw [HC1.out, HI.out], Lib.hid (HBw.out.alloc HBw.out.size _)⟩
            case measure => simp [intOf]; omega
      · have hE : Cu.cnt N S = (k : Int) := by have := HT.out; omega
        have hed := Cu.edge_cnt HOK.out
        rw [hE] at hed cn
        rw [hed]
        by_cases hb : 0 ≤ x ∧ x < N
        · obtain ⟨hb1, hb2⟩ := hb
          rw [show Cu.inn N S k x = 1 by unfold Cu.inn; rw [hed, if_pos ⟨hb1, hb2⟩]]
          clear hE hlt hed
          go_wp2_with (go_at_call 15; refine (cn _).mono ?_; rintro e w3 ⟨rfl, hb⟩; replace HBw := Lib.hid (HBw.out.trans (hb.mono HBw.out.size)); clear hb)
          go_ret
          exact ⟨rfl, HBw.out⟩
        · rw [show Cu.inn N S k x = 0 by unfold Cu.inn; rw [hed, if_neg hb]]
          clear hE hlt hed
          by_cases hb1 : 0 ≤ x
          · have hb2 : N ≤ x := by omega
            have hb3 : decide (x < N) = false := decide_eq_false (by omega)
            go_wp2_with (go_at_call 15; refine (cn _).mono ?_; rintro e w3 ⟨rfl, hb⟩; replace HBw := Lib.hid (HBw.out.trans (hb.mono HBw.out.size)); clear hb)
            go_ret
            exact ⟨rfl, HBw.out⟩
          · have hb2 : x < 0 := by omega
            go_wp2_with (go_at_call 15; refine (cn _).mono ?_; rintro e w3 ⟨rfl, hb⟩; replace HBw := Lib.hid (HBw.out.trans (hb.mono HBw.out.size)); clear hb)
            go_ret
            exact ⟨rfl, HBw.out⟩
end Go.Proofs.Ytlonpimnjjkfpaa
