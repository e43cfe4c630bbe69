/-
  The walk of CutsTells.
-/
import Derived.Test.YtlonpimnjjkfpaaCutsForms
import Derived.LoopTactic
import Derived.IntWalk
import Derived.Deep.RegionHeld3
namespace Go.Proofs.Ytlonpimnjjkfpaa
open Go.ChangeShapes Go.WideShapes Go.ChangeAt Go.RowKit

theorem below_boxC {w w1 w' : World} {o : Obj} (h : Below w.heap.size w w1) (hb : Below (w1.alloc o).heap.size (w1.alloc o) w') : Below w.heap.size w w' :=
  (h.alloc h.size o).trans (hb.mono (h.alloc h.size o).size)
theorem Duo.box {w1 w' : World} {o : Obj} {n : Nat} {a b : Value} (h : Duo w1 n a b) (hb : Below (w1.alloc o).heap.size (w1.alloc o) w') : Duo w' n a b := (h.alloc o).below hb
theorem Duo.made {w1 w' : World} {a b : Value} {t : TypeId} (hb : Below (w1.alloc (.cells #[a, b] t)).heap.size (w1.alloc (.cells #[a, b] t)) w') : Duo w' w1.heap.size a b := (Duo.new w1 a b t).below hb

theorem Cu.bd_range (i n s : Int) : 0 ≤ (Cu.bd i n s).1 ∧ (Cu.bd i n s).1 ≤ (Cu.bd i n s).2 ∧ (Cu.bd i n s).2 ≤ 4096 := by
  cases h : Cu.has i n s with
  | true => have := Cu.bd_in h; omega
  | false => rw [Cu.bd_no h]; simp
/-- the object's span and its last slice as they lie, and nothing of what was there turned -/
def Cu2 (w : World) (g : Nat) (a b l0 l1 : Int) (w' : World) : Prop :=
  Below w.heap.size w w' ∧ w.heap.size < w'.heap.size ∧ g < w'.heap.size ∧ w'.cell? ⟨w.heap.size, 0, none⟩ = some (.int .i64 a) ∧ w'.cell? ⟨w.heap.size, 1, none⟩ = some (.int .i64 b) ∧
    w'.cell? ⟨g, 0, none⟩ = some (.int .i64 l0) ∧ w'.cell? ⟨g, 1, none⟩ = some (.int .i64 l1)
theorem Cu2.next {w wx w' : World} {g : Nat} {a b l0 l1 : Int} (h : Cu2 w g a b l0 l1 wx) (hb : Below wx.heap.size wx w') : Cu2 w g a b l0 l1 w' := by
  obtain ⟨h1, h2, h3, h4, h5, h6, h7⟩ := h
  exact ⟨h1.trans (hb.mono h1.size), Nat.lt_of_lt_of_le h2 hb.size, Nat.lt_of_lt_of_le h3 hb.size, (hb.cell (p := ⟨w.heap.size, 0, none⟩) h2).trans h4, (hb.cell (p := ⟨w.heap.size, 1, none⟩) h2).trans h5,
    (hb.cell (p := ⟨g, 0, none⟩) h3).trans h6, (hb.cell (p := ⟨g, 1, none⟩) h3).trans h7⟩
theorem Cu2.drew {w wx : World} {g : Nat} {a b l0 l1 : Int} (h : Cu2 w g a b l0 l1 wx) : Cu2 w g a b l0 l1 wx.drew := by
  obtain ⟨h1, h2, h3, h4, h5, h6, h7⟩ := h
  exact ⟨h1.drew, h2, h3, by simpa using h4, by simpa using h5, by simpa using h6, by simpa using h7⟩

set_option maxRecDepth 100000 in
set_option maxHeartbeats 4000000 in
theorem cutsTells_walk (i N S a b x y p0 p1 f t l0 l1 : Int) (h q r : Bool) (w : World) (hy : decide (0 < y) = h) (hp : decide (0 < p1) = q) (hof : Cu.of a b S = (f, t)) (hlast : Cu.bd (Cu.cnt N S - 1) N S = (l0, l1))
    (ca : ∀ W, Calls Try.prog 6 #[] W fun e w' => e = .returned (.bool true) ∧ Below W.heap.size W w')
    (cb : ∀ W, Calls Try.prog 7 #[.int .i64 i, .int .i64 N, .int .i64 S] W fun e w' => e = .returned (.tuple #[.agg #[.int .i64 x, .int .i64 y], .bool h]) ∧ Below W.heap.size W w')
    (cr : ∀ W, Calls Try.prog 8 #[.int .i64 i, .int .i64 N, .int .i64 S] W fun e w' => e = .returned (.agg #[.int .i64 x, .int .i64 y]) ∧ Below W.heap.size W w')
    (cp : ∀ W, Calls Try.prog 9 #[.agg #[.int .i64 a, .int .i64 b], .int .i64 i, .int .i64 N, .int .i64 S] W fun e w' => e = .returned (.tuple #[.agg #[.int .i64 p0, .int .i64 p1], .bool q]) ∧ Below W.heap.size W w')
    (cm : ∀ W, Calls Try.prog 10 #[.agg #[.int .i64 a, .int .i64 b], .agg #[.int .i64 x, .int .i64 y]] W fun e w' => e = .returned (.agg #[.int .i64 p0, .int .i64 p1]) ∧ Below W.heap.size W w')
    (c1 : ∀ W, Calls Try.prog 11 #[.int .i64 N, .int .i64 S] W fun e w' => e = .returned (.bool r) ∧ Below W.heap.size W w')
    (c2 : ∀ W, Calls Try.prog 12 #[.int .i64 N, .int .i64 S] W fun e w' => e = .returned (.bool r) ∧ W = w')
    (co : ∀ W, Calls Try.prog 13 #[.agg #[.int .i64 a, .int .i64 b], .int .i64 S] W fun e w' => e = .returned (.tuple #[.int .i64 f, .int .i64 t]) ∧ Below W.heap.size W w')
    (cn : ∀ W, Calls Try.prog 15 #[.int .i64 N, .int .i64 S] W fun e w' => e = .returned (.int .i64 (Cu.cnt N S)) ∧ Below W.heap.size W w')
    (cl : ∀ W, Calls Try.prog 16 #[.int .i64 N, .int .i64 S] W fun e w' => e = .returned (.int .i64 (l1 - l0)) ∧ Below W.heap.size W w') :
    Calls Try.prog 3 #[.int .i64 i, .int .i64 N, .int .i64 S, .agg #[.int .i64 a, .int .i64 b]] w fun e w' => e = .returned (.bool true) ∧ Below w.heap.size w w' := by
  have HB := Lib.hid (below_one w (.cells #[.int .i64 a, .int .i64 b] 23))
  have D7 := Lib.hid (Duo.new w (.int .i64 a) (.int .i64 b) 23)
  go_enter Try.func3, Try.ntmps3
  go_wp2_with (first
    | (go_at_call 6; refine (ca _).mono ?_; rintro e w1 ⟨rfl, hb⟩; replace HB := Lib.hid (HB.out.trans (hb.mono HB.out.size)); replace D7 := Lib.hid (D7.out.below hb); clear hb ca)
    | (go_at_call 7; refine (cb _).mono ?_; rintro e w2 ⟨rfl, hb⟩; replace HB := Lib.hid (HB.out.trans (hb.mono HB.out.size)); replace D7 := Lib.hid (D7.out.below hb); clear hb cb)
    | (go_at_call 8; refine (cr _).mono ?_; rintro e w3 ⟨rfl, hb⟩; replace HB := Lib.hid (below_boxC HB.out hb); replace D7 := Lib.hid (D7.out.box hb); have D9 := Lib.hid (Duo.made hb); clear hb cr; obtain ⟨m7, x7, y7, -, -⟩ := D7.out)
    | (go_at_call 9; refine (cp _).mono ?_; rintro e w4 ⟨rfl, hb⟩; replace HB := Lib.hid (below_boxC HB.out hb); replace D7 := Lib.hid (D7.out.box hb); replace D9 := Lib.hid (D9.out.box hb); have D11 := Lib.hid (Duo.made hb); clear hb cp m7 x7 y7; obtain ⟨m7, x7, y7, -, -⟩ := D7.out; obtain ⟨m11, x11, y11, -, -⟩ := D11.out)
    | (go_at_call 10; refine (cm _).mono ?_; rintro e w5 ⟨rfl, hb⟩; replace HB := Lib.hid (below_boxC HB.out hb); replace D7 := Lib.hid (D7.out.box hb); replace D9 := Lib.hid (D9.out.box hb); replace D11 := Lib.hid (D11.out.box hb); have D12 := Lib.hid (Duo.made hb); clear hb cm m7 x7 y7 m11 x11 y11; obtain ⟨m9, x9, y9, -, -⟩ := D9.out; obtain ⟨m11, x11, y11, -, -⟩ := D11.out; obtain ⟨m12, x12, y12, -, -⟩ := D12.out)
    | (go_at_call 11; refine (c1 _).mono ?_; rintro e w6 ⟨rfl, hb⟩; replace HB := Lib.hid (below_boxC HB.out hb); replace D7 := Lib.hid (D7.out.box hb); clear hb c1 m9 x9 y9 m11 x11 y11 m12 x12 y12 D9 D11 D12)
    | (go_at_call 12; refine (c2 _).mono ?_; rintro e w7 ⟨rfl, rfl⟩; clear c2))
  have HK := Lib.hid (Cu.cnt_le N S)
  go_loopw [15] (fun i wr => ∃ k : Nat, i = .int .i64 k ∧ Hid ((k : Int) ≤ Cu.cnt N S) ∧ Hid (Below w.heap.size w wr) ∧ Hid (Duo wr w.heap.size (.int .i64 a) (.int .i64 b))) (fun i _ => 4097 - (intOf i).toNat)
  case atStart => exact ⟨0, rfl, Lib.hid HK.out.1, HB, D7⟩
  case round =>
    obtain ⟨k, rfl, HT, HBw, D7w⟩ := hrel
    have hk0 : (k : Int) ≤ 4096 := by have := HT.out; have := HK.out.2; omega
    have fl := field1S
    by_cases hlt : (k : Int) < Cu.cnt N S
    · have hh := Cu.has_cnt k N S (by omega)
      rw [decide_eq_true hlt] at hh
      have hin := Cu.bd_in hh
      have cbk := fun W => refBounds_any k N S W
      have hpos : 0 < (Cu.bd k N S).2 := by omega
      generalize Cu.bd k N S = d at *
      have HT1 : Hid (((k + 1 : Nat) : Int) ≤ Cu.cnt N S) := Lib.hid (by omega)
      clear hin hh hlt
      go_wp2_with (go_at_call 8; refine (cbk _).mono ?_; rintro e w8 ⟨rfl, hb⟩; replace HBw := Lib.hid (HBw.out.trans (hb.mono HBw.out.size)); replace D7w := Lib.hid (D7w.out.below hb); clear hb cbk)
      go_roundw
      case rel => exact ⟨k + 1, by go_num, HT1, HBw, D7w⟩
      case measure => simp [intOf]; omega
    · have hE : Cu.cnt N S = (k : Int) := by have := HT.out; omega
      have hh := Cu.has_cnt k N S (by omega)
      rw [decide_eq_false hlt] at hh
      have cbk := fun W => refBounds_any k N S W
      rw [Cu.bd_no hh] at cbk
      have cbl := fun W => refBounds_any (k - 1) N S W
      rw [← hE, hlast, hE] at cbl
      rw [hE] at cn
      have cs := fun W => refRight_any a b W
      clear hE hlt hh
      by_cases h1 : Cr.spanB a b = true
      · rw [h1] at cs
        have hb1 := spanB_parts h1
        by_cases h2 : 1 ≤ S ∧ S ≤ 64
        · obtain ⟨h3, h4⟩ := h2
          have hof2 : (f, t) = (a / S, (b - 1) / S + 1) := by rw [← hof]; unfold Cu.of; rw [h1, decide_eq_true h3, decide_eq_true h4]; rfl
          injection hof2 with hf ht
          have HF := Lib.hid hf
          have HTT := Lib.hid ht
          have HB1 := Lib.hid hb1
          clear hof hf ht h1 hb1
          go_wp2_with (first
            | (go_at_call 8; refine (cbk _).mono ?_; rintro e w8 ⟨rfl, hb⟩; replace HBw := Lib.hid (HBw.out.trans (hb.mono HBw.out.size)); replace D7w := Lib.hid (D7w.out.below hb); clear hb cbk)
            | (go_at_call 8; refine (cbl _).mono ?_; rintro e w9 ⟨rfl, hb⟩; replace HBw := Lib.hid (HBw.out.trans (hb.mono HBw.out.size)); replace D7w := Lib.hid (D7w.out.below hb); clear hb cbl; obtain ⟨m7, x7, y7, -, -⟩ := D7w.out)
            | (go_at_call 13; refine (co _).mono ?_; rintro e w10 ⟨rfl, hb⟩; replace HBw := Lib.hid (below_boxC HBw.out hb); replace D7w := Lib.hid (D7w.out.box hb); have D16 := Lib.hid (Duo.made hb); clear hb co m7 x7 y7; obtain ⟨m7, x7, y7, -, -⟩ := D7w.out)
            | (go_at_call 14; refine (cs _).mono ?_; rintro e w11 ⟨rfl, hb⟩; replace HBw := Lib.hid (HBw.out.trans (hb.mono HBw.out.size)); replace D7w := Lib.hid (D7w.out.below hb); replace D16 := Lib.hid (D16.out.below hb); clear hb cs m7 x7 y7))
          have hP : Cu2 w w9.heap.size a b l0 l1 w11.drew := Cu2.drew ⟨HBw.out, D7w.out.1, D16.out.1, D7w.out.2.1, D7w.out.2.2.1, D16.out.2.1, D16.out.2.2.1⟩
          have q0 := Cu.bd_range (Cu.cnt N S - 1) N S
          rw [hlast] at q0
          dsimp only at q0
          have q1 : IntKind.i64.wrap (l1 - l0) = l1 - l0 := IntWalk.i64_in _ (by omega)
          have q2 : IntKind.i64.wrap (b - 1) = b - 1 := IntWalk.i64_in _ (by have := HB1.out; omega)
          have q3 : a.tdiv S = f := by rw [HF.out]; exact Int.tdiv_eq_ediv_of_nonneg HB1.out.1
          have q4 : (b - 1).tdiv S = t - 1 := by rw [HTT.out, Int.tdiv_eq_ediv_of_nonneg (by have := HB1.out; omega)]; omega
          have q6 : ¬ S = 0 := by omega
          have f0 : 0 ≤ f ∧ f ≤ 4611686018427387903 := by
            rw [HF.out]
            exact ⟨Int.ediv_nonneg HB1.out.1 (by omega), Int.le_trans (Int.ediv_le_self S HB1.out.1) (by have := HB1.out; omega)⟩
          have t0 : 1 ≤ t ∧ t ≤ 4611686018427387904 := by
            rw [HTT.out]
            have h5 : 0 ≤ b - 1 := by have := HB1.out; omega
            have h6 := Int.ediv_nonneg h5 (show 0 ≤ S by omega)
            have h7 := Int.ediv_le_self S h5
            have := HB1.out
            omega
          have q7 : wrap64 f = f := IntWalk.wrap64_in _ (by omega)
          have q8 : IntKind.i64.wrap f = f := IntWalk.i64_in _ (by omega)
          have q9 : wrap64 (t - 1) = t - 1 := IntWalk.wrap64_in _ (by omega)
          have qa : IntKind.i64.wrap (t - 1) = t - 1 := IntWalk.i64_in _ (by omega)
          have qb : IntKind.i64.wrap (t - 1 + 1) = t := by rw [IntWalk.i64_in _ (by omega)]; omega
          have qc : IntKind.i64.wrap t = t := IntWalk.i64_in _ (by omega)
          have q5 : (S == 0) = false := by simpa using q6
          clear f0 t0
          clear HB D7 q0
          go_region_held3 (fun w' => Below w.heap.size w w' ∧ w.heap.size < w'.heap.size ∧ w9.heap.size < w'.heap.size ∧ w'.cell? ⟨w.heap.size, 0, none⟩ = some (.int .i64 a) ∧ w'.cell? ⟨w.heap.size, 1, none⟩ = some (.int .i64 b) ∧
              w'.cell? ⟨w9.heap.size, 0, none⟩ = some (.int .i64 l0) ∧ w'.cell? ⟨w9.heap.size, 1, none⟩ = some (.int .i64 l1)) (exact hP)
            (first
              | (go_at_call 15; (with_reducible refine (cn _).mono ?_); rintro e w' ⟨rfl, hb⟩; replace hP := Cu2.next hP hb; clear hb)
              | (go_at_call 16; (with_reducible refine (cl _).mono ?_); rintro e w' ⟨rfl, hb⟩; replace hP := Cu2.next hP hb; clear hb)
              | fail)
          clear q1 q2 q3 q4 q5 q6 q7 q8 q9 qa qb qc
          go_wp2
          go_ret
          exact ⟨rfl, hP.1⟩
        · have hof2 : (f, t) = ((0 : Int), (0 : Int)) := by
            rw [← hof]
            unfold Cu.of
            by_cases h3 : 1 ≤ S
            · rw [h1, decide_eq_true h3, decide_eq_false (by omega)]; rfl
            · rw [h1, decide_eq_false h3]; rfl
          injection hof2 with hf ht
          subst hf ht
          clear h1 hof
          by_cases h3 : 1 ≤ S
          · have h4 : 64 < S := by omega
            clear h2
            go_wp2_with (first
              | (go_at_call 8; refine (cbk _).mono ?_; rintro e w8 ⟨rfl, hb⟩; replace HBw := Lib.hid (HBw.out.trans (hb.mono HBw.out.size)); replace D7w := Lib.hid (D7w.out.below hb); clear hb cbk)
              | (go_at_call 8; refine (cbl _).mono ?_; rintro e w9 ⟨rfl, hb⟩; replace HBw := Lib.hid (HBw.out.trans (hb.mono HBw.out.size)); replace D7w := Lib.hid (D7w.out.below hb); clear hb cbl; obtain ⟨m7, x7, y7, -, -⟩ := D7w.out)
              | (go_at_call 13; refine (co _).mono ?_; rintro e w10 ⟨rfl, hb⟩; replace HBw := Lib.hid (below_boxC HBw.out hb); replace D7w := Lib.hid (D7w.out.box hb); have D16 := Lib.hid (Duo.made hb); clear hb co m7 x7 y7; obtain ⟨m7, x7, y7, -, -⟩ := D7w.out)
              | (go_at_call 14; refine (cs _).mono ?_; rintro e w11 ⟨rfl, hb⟩; replace HBw := Lib.hid (HBw.out.trans (hb.mono HBw.out.size)); replace D7w := Lib.hid (D7w.out.below hb); replace D16 := Lib.hid (D16.out.below hb); clear hb cs m7 x7 y7)
              | (go_at_call 15; refine (cn _).mono ?_; rintro e w12 ⟨rfl, hb⟩; replace HBw := Lib.hid (HBw.out.trans (hb.mono HBw.out.size)); clear hb cn))
            go_ret
            exact ⟨rfl, HBw.out⟩
          · have h4 : S < 1 := by omega
            clear h2
            go_wp2_with (first
              | (go_at_call 8; refine (cbk _).mono ?_; rintro e w8 ⟨rfl, hb⟩; replace HBw := Lib.hid (HBw.out.trans (hb.mono HBw.out.size)); replace D7w := Lib.hid (D7w.out.below hb); clear hb cbk)
              | (go_at_call 8; refine (cbl _).mono ?_; rintro e w9 ⟨rfl, hb⟩; replace HBw := Lib.hid (HBw.out.trans (hb.mono HBw.out.size)); replace D7w := Lib.hid (D7w.out.below hb); clear hb cbl; obtain ⟨m7, x7, y7, -, -⟩ := D7w.out)
              | (go_at_call 13; refine (co _).mono ?_; rintro e w10 ⟨rfl, hb⟩; replace HBw := Lib.hid (below_boxC HBw.out hb); replace D7w := Lib.hid (D7w.out.box hb); have D16 := Lib.hid (Duo.made hb); clear hb co m7 x7 y7; obtain ⟨m7, x7, y7, -, -⟩ := D7w.out)
              | (go_at_call 14; refine (cs _).mono ?_; rintro e w11 ⟨rfl, hb⟩; replace HBw := Lib.hid (HBw.out.trans (hb.mono HBw.out.size)); replace D7w := Lib.hid (D7w.out.below hb); replace D16 := Lib.hid (D16.out.below hb); clear hb cs m7 x7 y7)
              | (go_at_call 15; refine (cn _).mono ?_; rintro e w12 ⟨rfl, hb⟩; replace HBw := Lib.hid (HBw.out.trans (hb.mono HBw.out.size)); clear hb cn))
            go_ret
            exact ⟨rfl, HBw.out⟩
      · have h1' : Cr.spanB a b = false := by simpa using h1
        rw [h1'] at cs
        have hof2 : (f, t) = ((0 : Int), (0 : Int)) := by rw [← hof]; unfold Cu.of; rw [h1']; rfl
        injection hof2 with hf ht
        subst hf ht
        clear h1 h1' hof
        go_wp2_with (first
          | (go_at_call 8; refine (cbk _).mono ?_; rintro e w8 ⟨rfl, hb⟩; replace HBw := Lib.hid (HBw.out.trans (hb.mono HBw.out.size)); replace D7w := Lib.hid (D7w.out.below hb); clear hb cbk)
          | (go_at_call 8; refine (cbl _).mono ?_; rintro e w9 ⟨rfl, hb⟩; replace HBw := Lib.hid (HBw.out.trans (hb.mono HBw.out.size)); replace D7w := Lib.hid (D7w.out.below hb); clear hb cbl; obtain ⟨m7, x7, y7, -, -⟩ := D7w.out)
          | (go_at_call 13; refine (co _).mono ?_; rintro e w10 ⟨rfl, hb⟩; replace HBw := Lib.hid (below_boxC HBw.out hb); replace D7w := Lib.hid (D7w.out.box hb); have D16 := Lib.hid (Duo.made hb); clear hb co m7 x7 y7; obtain ⟨m7, x7, y7, -, -⟩ := D7w.out)
          | (go_at_call 14; refine (cs _).mono ?_; rintro e w11 ⟨rfl, hb⟩; replace HBw := Lib.hid (HBw.out.trans (hb.mono HBw.out.size)); replace D7w := Lib.hid (D7w.out.below hb); replace D16 := Lib.hid (D16.out.below hb); clear hb cs m7 x7 y7)
          | (go_at_call 15; refine (cn _).mono ?_; rintro e w12 ⟨rfl, hb⟩; replace HBw := Lib.hid (HBw.out.trans (hb.mono HBw.out.size)); clear hb cn))
        go_ret
        exact ⟨rfl, HBw.out⟩
theorem cutsTells_on (hbd : CutsBounds) (hpt : CutsPart) (hrt : CutsRight) (hof : CutsOf) (hcn : CutsCount) (hls : CutsLast) (i N S a b : Int) (w : World) (hi : I64 i) (hN : I64 N) (hS : I64 S) (ha : I64 a) (hb : I64 b) :
    Calls Try.prog 3 #[.int .i64 i, .int .i64 N, .int .i64 S, .agg #[.int .i64 a, .int .i64 b]] w fun e w' => e = .returned (.bool true) ∧ Below w.heap.size w w' :=
  cutsTells_walk i N S a b _ _ _ _ _ _ _ _ _ _ _ w (Cu.bd_to i N S) (Cu.meet_to a b _ _) rfl rfl (fun W => cuts_awake hbd W) (fun W => hbd i N S W hi hN hS) (fun W => refBounds_any i N S W)
    (fun W => hpt a b i N S W ha hb hi hN hS) (fun W => refMeet_any a b _ _ W) (fun W => hrt N S W hN hS) (fun W => refCuts_any N S W) (fun W => hof a b S W ha hb hS) (fun W => hcn N S W hN hS) (fun W => hls N S W hN hS)
end Go.Proofs.Ytlonpimnjjkfpaa
