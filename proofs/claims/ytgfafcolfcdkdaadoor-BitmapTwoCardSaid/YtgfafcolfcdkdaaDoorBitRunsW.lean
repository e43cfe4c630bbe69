/-
  The walk of the statement on runs, by the contracts: whatever a map is.
-/
import Derived.Test.YtgfafcolfcdkdaaDoorRefSplit
namespace Go.Proofs.YtgfafcolfcdkdaaDoor
open Go.ChangeShapes Go.WideShapes Go.ChangeAt Go.RowKit
set_option maxRecDepth 100000

/-- so many numbers from one on -/
def Bm.rng (lo : Int) (k : Nat) : List Int := (List.range k).map fun (j : Nat) => lo + (j : Int)
theorem Bm.rng_length (lo : Int) (k : Nat) : (Bm.rng lo k).length = k := by simp [Bm.rng]
theorem Bm.rng_succ (lo : Int) (k : Nat) : Bm.rng lo (k + 1) = Bm.rng lo k ++ [lo + (k : Int)] := by simp [Bm.rng, List.range_succ]
theorem Bm.mem_rng {lo : Int} {k : Nat} {x : Int} : x ∈ Bm.rng lo k ↔ lo ≤ x ∧ x < lo + k := by
  unfold Bm.rng
  rw [List.mem_map]
  constructor
  · rintro ⟨j, hj, rfl⟩
    have := List.mem_range.1 hj
    omega
  · rintro ⟨h1, h2⟩
    exact ⟨(x - lo).toNat, List.mem_range.2 (by omega), by omega⟩
/-- rising numbers that may be: sorted, they are as they were -/
theorem Bm.srt_rng {lo : Int} {k : Nat} (h0 : 0 ≤ lo) : ∀ m : Nat, lo + k ≤ m → Bm.srt (Bm.rng lo k) m = Bm.rng lo k := by
  obtain ⟨a, rfl⟩ : ∃ a : Nat, lo = (a : Int) := ⟨lo.toNat, by omega⟩
  have key : ∀ (m : Nat), Bm.srt (Bm.rng (a : Int) k) m = Bm.rng (a : Int) (min k (m - a)) := by
    intro m
    induction m with
    | zero => simp [Bm.srt_zero, Bm.rng]
    | succ m ih =>
      by_cases hm : (m : Int) ∈ Bm.rng (a : Int) k
      · obtain ⟨h1, h2⟩ := Bm.mem_rng.1 hm
        rw [Bm.srt_yes hm, ih, show min k (m + 1 - a) = min k (m - a) + 1 by omega, Bm.rng_succ, show min k (m - a) = m - a by omega, show (a : Int) + ((m - a : Nat) : Int) = (m : Int) by omega]
      · rw [Bm.srt_no hm, ih]
        have hm2 : ¬ ((a : Int) ≤ m ∧ (m : Int) < a + k) := fun h => hm (Bm.mem_rng.2 h)
        rw [show min k (m + 1 - a) = min k (m - a) by omega]
  intro m hm
  rw [key m, show min k (m - a) = k by omega]
section
variable {A : Option Addr} {n c : Nat} {cs : List Value} {l : List Int} {w : World}
set_option maxHeartbeats 4000000 in
theorem runs_core (from_ to lo hi : Int) (hl1 : (if from_ < 0 then (0 : Int) else from_) = lo) (hh1 : (if (4097 : Int) < to then (4097 : Int) else to) = hi) (hlo : 0 ≤ lo) (hhi : hi ≤ 4097)
    (q2 q3 : Bool) (d2 : decide ((200 : Int) < to) = q2) (d3 : decide (from_ < 3800) = q3) (hA : Vs w w.heap.size A n (nums .i64 l)) 
    (ka : ∀ W, Below w.heap.size w W → Calls Tryd.prog 6 #[] W fun e w' => e = .returned (.bool true) ∧ Below W.heap.size W w')
    (kf : n ≤ 60 → ∀ W, Below w.heap.size w W → Calls Tryd.prog 7 #[.slice A n c] W fun e w' => e = .returned (.agg cs.toArray) ∧ Below W.heap.size W w')
    (kr : n ≤ 60 → ∀ W, Below w.heap.size w W → Calls Tryd.prog 20 #[.agg cs.toArray, .int .i64 from_, .int .i64 to] W (RunsTo (Bm.runs l (Bm.rng lo (hi - lo).toNat)) W)) :
    Calls Tryd.prog 5 #[.slice A n c, .int .i64 from_, .int .i64 to] w fun e w' => e = .returned (.bool true) ∧ Below w.heap.size w w' := by
  have HKA := Lib.hid (ka w (Below.refl _ _))
  have HA := Lib.hid hA
  clear ka hA
  obtain ⟨K, hK⟩ : ∃ K, K = (hi - lo).toNat := ⟨_, rfl⟩
  rw [← hK] at kr
  have HK := Lib.hid hK
  clear hK
  by_cases hn : 60 < n
  · have d1 : decide ((60 : Int) < (n : Int)) = true := decide_eq_true (by omega)
    clear kf kr
    go_enter Tryd.func5, Tryd.ntmps5
    go_wp2_with (go_at_call 6; (with_reducible refine HKA.out.mono ?_); rintro e w1 ⟨rfl, hb1⟩; have HB1 := Lib.hid hb1; clear hb1)
    go_ret
    exact ⟨rfl, HB1.out⟩
  have d1 : decide ((60 : Int) < (n : Int)) = false := decide_eq_false (by omega)
  have KF := Lib.hid (kf (by omega))
  have KR := Lib.hid (kr (by omega))
  clear kf kr
  obtain ⟨i0, hi0, hz0, hz1, hz2⟩ := info_parts int_infoS
  have HI0 := Lib.hid hi0
  have HZ := Lib.hid hz0
  have HSZ := Lib.hid hz1
  have HBY := Lib.hid hz2
  clear hi0 hz0 hz1 hz2
  cases q2
  case' true => cases q3
  case' true.true =>
    go_enter Tryd.func5, Tryd.ntmps5
    go_wp2_with (go_at_call 6; (with_reducible refine HKA.out.mono ?_); rintro e w1 ⟨rfl, hb1⟩; have HB1 := Lib.hid hb1; clear hb1)
    go_ret
    exact ⟨rfl, HB1.out⟩
  all_goals
    go_enter Tryd.func5, Tryd.ntmps5
    go_wp2_with (first
      | (go_at_call 6; (with_reducible refine HKA.out.mono ?_); rintro e w1 ⟨rfl, hb1⟩; have HB1 := Lib.hid hb1; clear hb1)
      | (go_at_call 7; (with_reducible refine (KF.out w1 HB1.out).mono ?_); rintro e w2 ⟨rfl, hb2⟩; have HB2 := Lib.hid (HB1.out.trans (hb2.mono HB1.out.size)); clear hb2)
      | (go_at_call 20; (with_reducible refine (KR.out w2 HB2.out).mono ?_); rintro e w3 ⟨A3, c3, rfl, hr3, hc3, hb3⟩; have HR3 := Lib.hid (And.intro hr3 hc3); have HB3 := Lib.hid (HB2.out.trans (hb3.mono HB2.out.size)); clear hb3 hr3 hc3))
    go_loopw [8, 9] (fun v i wr => ∃ (j : Nat) (x : Int) (A' : Option Addr) (c' : Nat), j ≤ K ∧ i = .int .i64 x ∧ Hid (x = lo + (j : Int)) ∧ v = .slice A' j c' ∧ Hid (wr.ownsRow w3.heap.size 3 1 (.slice A' j c') j (nums .i64 (Bm.rng lo j))) ∧ Hid (Below w3.heap.size w3 wr)) (fun _ i _ => (hi - intOf i).toNat)
    case atStart => exact ⟨0, lo, none, 0, by omega, rfl, Lib.hid (by omega), rfl, Lib.hid ⟨rfl, .inl ⟨rfl, rfl⟩⟩, Lib.hid (Below.refl _ _)⟩
    case round =>
      obtain ⟨j, x, A', c', hj, rfl, HX, rfl, HO, HB⟩ := hrel
      by_cases hlt : x < hi
      · have hx := HX.out
        have hw1 : IntKind.i64.wrap (x + 1) = x + 1 := IntWalk.i64_in _ (by omega)
        have d5 : decide (x < hi) = true := decide_eq_true hlt
        have HS : Hid (nums .i64 (Bm.rng lo j) ++ [.int .i64 x] = nums .i64 (Bm.rng lo (j + 1))) := Lib.hid (by rw [Bm.rng_succ, ← hx, ← nums_append]; rfl)
        have HJ : Hid (j + 1 ≤ K ∧ j ≤ 4097) := Lib.hid (by have := HK.out; omega)
        clear hx
        go_wp2_with (at_builtin; refine wpList_append_vals (o := ⟨some 39, _, _, _, _, _⟩) rfl (.tmp 36) (.tmp 38) 22 rfl w3.heap.size 3 i0 _ 8 Tryd.underlying22 HI0.out HZ.out HSZ.out HBY.out rfl _ j (nums .i64 (Bm.rng lo j)) rfl (HO.out.alloc _) (wr.heap.size + 1) (some ⟨wr.heap.size, 0, none⟩) 1 1 [.int .i64 x] rfl (Vs.new wr 3 (0, 0) #[.int .i64 x]) (by intro u hu; simp at hu; subst hu; rfl) (by have := HJ.out; omega) (by have := HJ.out; omega) (by have := HB.out.size; simp; omega) ?_; intro v2 w4 HO2 HG2)
        obtain ⟨A2, c2, rfl, -, -⟩ := Vs.of_own HO2.out
        go_roundw
        case rel =>
          have hb2 := HB.out.alloc HB.out.size (.cells #[.int .i64 x] 3)
          have ho := HO2.out
          rw [HS.out] at ho
          exact ⟨j + 1, x + 1, A2, c2, HJ.out.1, rfl, Lib.hid (by have := HX.out; omega), rfl, Lib.hid ho, Lib.hid (hb2.grown HG2.out hb2.size (fun q hq => (HO.out.lt q hq).1))⟩
        case measure => simp [intOf]; omega
      · have d5 : decide (x < hi) = false := decide_eq_false hlt
        have hKK := HK.out
        have hjk : j = K := by have := HX.out; omega
        have HJ : Hid (j ≤ 4097) := Lib.hid (by omega)
        have HSR : Hid (Bm.srt (Bm.rng lo K) 4097 = Bm.rng lo K) := Lib.hid (by
          rcases Nat.eq_zero_or_pos K with h0 | h0
          · rw [h0]
            show Bm.srt [] 4097 = []
            exact List.eq_nil_of_length_eq_zero (Nat.le_zero.1 (Bm.srt_length [] 4097))
          · exact Bm.srt_rng hlo 4097 (by omega))
        clear hKK hj
        subst hjk
        obtain ⟨A9, c9, e9, hv9, -⟩ := Vs.of_own HO.out
        have e8 : A' = A9 := by injection e9
        subst e8
        have hbA := HB3.out.trans (HB.out.mono HB3.out.size)
        have csp := split_any A' A j c' n c wr.heap.size (Bm.rng lo j) l wr hv9 ((HA.out.below hbA).mono hbA.size) (Nat.le_refl _) (by have := HJ.out; omega) (by omega)
        rw [HSR.out] at csp
        have HR4 := Lib.hid ((HR3.out.1.below HB.out).mono HB.out.size)
        have HBA := Lib.hid hbA
        have HRL := Lib.hid (Nat.le_trans (Bm.runs_length l (Bm.rng lo j)) (by rw [Bm.rng_length]; exact HJ.out))
        generalize Bm.runs l (Bm.rng lo j) = L at *
        clear e9 hv9 hbA
        go_wp2_with (first
          | (go_at_call 22; (with_reducible refine csp.mono ?_); rintro e w5 ⟨A5, c5, rfl, hr5, hc5, hb5⟩; have HB5 := Lib.hid (HBA.out.trans (hb5.mono HBA.out.size)); have crs := runs_same A3 A5 L.length c3 c5 w5.heap.size L w5 ((HR4.out.below hb5).mono hb5.size) hr5 (by have := HRL.out; omega); clear hr5 hc5 hb5 csp)
          | (go_at_call 21; (with_reducible refine crs.mono ?_); rintro e w6 ⟨rfl, m6, rfl⟩; clear crs))
        go_ret
        exact ⟨rfl, below_drewN HB5.out m6⟩
end
end Go.Proofs.YtgfafcolfcdkdaaDoor
