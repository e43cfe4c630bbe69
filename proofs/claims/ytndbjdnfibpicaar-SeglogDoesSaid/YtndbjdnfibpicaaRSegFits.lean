/-
  frame.Size, frame.Pages; segment.Fits, place, unused, Clean.
-/
import Derived.Test.YtndbjdnfibpicaaRLogMath
import Derived.Test.YtndbjdnfibpicaaRFlashRead
import Derived.Test.YtndbjdnfibpicaaRMCells
import Derived.Test.YtndbjdnfibpicaaRFlashNew
namespace Go.Proofs.YtndbjdnfibpicaaR
open Go.ChangeShapes Go.WideShapes Go.ChangeAt Go.RowKit Fl Lo
set_option maxRecDepth 100000

theorem fsize_any (n : Nat) (hn : n ≤ 4096) (w : World) : Calls Try.prog 80 #[.int .i64 n] w fun e w' => e = .returned (.int .i64 ((n + 16 : Nat) : Int)) ∧ w = w' := by
  have f1 := fits_any n 0 4096 w
  rw [decide_eq_true ⟨by omega, by omega⟩] at f1
  have w1 : IntKind.i64.wrap ((n : Int) + 16) = ((n + 16 : Nat) : Int) := by rw [IntWalk.i64_in _ (by omega)]; omega
  go_enter Try.func80, Try.ntmps80
  go_wp2_with (go_at_call 43; (with_reducible refine f1.mono ?_); rintro e w' ⟨rfl, rfl⟩)
  go_ret
  exact ⟨rfl, rfl⟩
theorem fpages_eq (n : Nat) {B : Nat} (hB : 1 ≤ B) : (n + 15) / B + 1 = Fm.pages n B := by
  unfold Fm.pages
  have e : n + 16 + B - 1 = n + 15 + B := by omega
  rw [e, Nat.add_div_right _ (by omega)]
theorem fpages_any (n B : Nat) (hn : n ≤ 4096) (hB : 1 ≤ B) (hB2 : B ≤ 4096) (w : World) : Calls Try.prog 75 #[.int .i64 n, .int .i64 B] w fun e w' => e = .returned (.int .i64 (Fm.pages n B : Int)) ∧ w = w' := by
  have cs := fsize_any n hn w
  obtain ⟨Z, hZ⟩ : ∃ Z, Z = n + 16 := ⟨_, rfl⟩
  rw [← hZ] at cs
  have e0 : ((Z : Int) == 0) = false := by simp; omega
  have e1 : decide ((B : Int) < 1) = false := decide_eq_false (by omega)
  have w1 : IntKind.i64.wrap ((Z : Int) - 1) = ((n + 15 : Nat) : Int) := by rw [IntWalk.i64_in _ (by omega)]; omega
  have hd : ((n + 15 : Nat) : Int).tdiv (B : Int) = (((n + 15) / B : Nat) : Int) := by rw [Int.ofNat_tdiv]
  have hle : (n + 15) / B ≤ n + 15 := Nat.div_le_self _ _
  have he := fpages_eq n hB
  generalize (n + 15) / B = q at *
  have w2 : IntKind.i64.wrap (q : Int) = (q : Int) := IntWalk.i64_in _ (by omega)
  have w3 : IntKind.i64.wrap ((q : Int) + 1) = (Fm.pages n B : Int) := by rw [IntWalk.i64_in _ (by omega), ← he]; omega
  have hb0 : (B : Int) ≠ 0 := by omega
  clear he hle
  generalize n + 15 = y at *
  generalize Fm.pages n B = K at *
  clear hZ
  go_enter Try.func75, Try.ntmps75
  go_wp2_with (go_at_call 80; (with_reducible refine cs.mono ?_); rintro e w' ⟨rfl, rfl⟩)
  go_ret
  exact ⟨rfl, rfl⟩
section
variable {S P B : Nat}
theorem segFits_any (hs : Shp S P B) (pg : Int) (n : Nat) (h0 : 0 ≤ pg) (hn : n ≤ 4096) (w : World) :
    Calls Try.prog 68 #[.agg #[.int .i64 S, .int .i64 P, .int .i64 B], .int .i64 pg, .int .i64 n] w fun e w' => e = .returned (.bool (decide (pg + (Fm.pages n B : Int) ≤ (P : Int)))) ∧ Below w.heap.size w w' := by
  have hb0 := below_new4 w (.cells #[.int .i64 S, .int .i64 P, .int .i64 B] 23)
  have t3 := Three.new w (.int .i64 S) (.int .i64 P) (.int .i64 B) 23
  have hb1 := hs.b1
  have hb2 := hs.b2
  have hp2 := hs.p2
  have cp := fpages_any n B hn (by omega) (by omega) (w.alloc (.cells #[.int .i64 S, .int .i64 P, .int .i64 B] 23))
  have hK := pages_pos n (by omega : 1 ≤ B)
  have hK2 := pages_le n hb1
  have hr := fun W => right_any S P B W
  rw [hs.ofB] at hr
  obtain ⟨K, hKK⟩ : ∃ K, K = Fm.pages n B := ⟨_, rfl⟩
  rw [← hKK] at cp hK hK2 ⊢
  clear hKK
  have w1 : IntKind.i64.wrap ((P : Int) - (K : Int)) = (P : Int) - (K : Int) := IntWalk.i64_in _ (by omega)
  have e1 : decide ((0 : Int) < (K : Int)) = true := decide_eq_true (by omega)
  have cf := fun W => fits_any pg 0 ((P : Int) - (K : Int)) W
  have ed : decide (0 ≤ pg ∧ pg ≤ (P : Int) - (K : Int)) = decide (pg + (K : Int) ≤ (P : Int)) := by
    rw [decide_eq_decide]; omega
  rw [ed] at cf
  generalize decide (pg + (K : Int) ≤ (P : Int)) = q at *
  clear ed
  obtain ⟨_, k0, k1, k2, _⟩ := t3
  have T3 := Lib.hid (Three.new w (.int .i64 S) (.int .i64 P) (.int .i64 B) 23)
  go_enter Try.func68, Try.ntmps68
  go_wp2_with (first
    | (go_at_call 75; (with_reducible refine cp.mono ?_); rintro e w1 ⟨rfl, rfl⟩)
    | (go_at_call 19; (with_reducible refine (hr _).mono ?_); rintro e w2 ⟨rfl, hb2⟩; obtain ⟨_, j0, j1, j2, _⟩ := T3.out.below hb2; have HB2 := Lib.hid (hb0.trans (hb2.mono hb0.size)); clear hb2)
    | (go_at_call 43; (with_reducible refine (cf _).mono ?_); rintro e w3 ⟨rfl, rfl⟩))
  go_ret
  exact ⟨rfl, HB2.out⟩
end
section
variable {k S P B db mb : Nat} {w w' : World} {v : Nat → Nat} {L : List Pg}
theorem place_ok (h : Dev w v k S P B db mb L) (s p : Int) (hs : W64 s) (hp : W64 p) (hin : 0 ≤ s ∧ s < S ∧ 0 ≤ p ∧ p < P) :
    Calls Try.prog 62 #[.pointer (some ⟨db, 0, none⟩), .int .i64 s, .int .i64 p] w fun e w' => e = .returned (.int .i64 0) ∧ Below w.heap.size w w' := by
  have cr := read_in h s p hs hp hin
  clear h hin
  go_enter Try.func62, Try.ntmps62
  go_wp2_with (go_at_call 37; (with_reducible refine cr.mono ?_); rintro e w1 ⟨g, rfl, hg, hr, hb⟩; have HB := Lib.hid hb; clear hb hr hg)
  go_ret
  exact ⟨rfl, HB.out⟩
set_option maxHeartbeats 1000000 in
theorem unused_yes (h : Dev w v k S P B db mb L) (s p : Int) (K : Nat) (hs : W64 s) (hp0 : 0 ≤ p) (hp1 : p ≤ 1000000) (hK : K ≤ 1000000) (hu : ∀ i : Nat, i < K → lk L s (p + (i : Int)) = none) :
    Calls Try.prog 63 #[.pointer (some ⟨db, 0, none⟩), .int .i64 s, .int .i64 p, .int .i64 K] w fun e w' => e = .returned (.bool true) ∧ Below w.heap.size w w' := by
  have HD := Lib.hid h
  have HU := Lib.hid hu
  have HWS := Lib.hid hs
  clear h hu hs
  go_enter Try.func63, Try.ntmps63
  go_wp2
  go_loopw [9, 11] (fun _ i wr => ∃ j : Nat, j ≤ K ∧ i = .int .i64 j ∧ Hid (Below w.heap.size w wr)) (fun _ i _ => K - (intOf i).toNat)
  case atStart => exact ⟨0, Nat.zero_le _, rfl, Lib.hid (Below.refl _ _)⟩
  case round =>
    obtain ⟨j, hj, rfl, HB⟩ := hrel
    by_cases hlt : j < K
    · have w1 : IntKind.i64.wrap (p + (j : Int)) = p + (j : Int) := IntWalk.i64_in _ (by omega)
      have cu := used_any (HD.out.below HB.out) s (p + (j : Int)) HWS.out (WalkArith.wf_i64 (by omega))
      rw [HU.out j hlt] at cu
      go_wp2_with (go_at_call 40; (with_reducible refine cu.mono ?_); rintro e w2 ⟨rfl, hb2⟩; have HB2 := Lib.hid (HB.out.trans (hb2.mono HB.out.size)); clear hb2 cu)
      go_roundw
      case rel => exact ⟨j + 1, by omega, by go_num, HB2⟩
      case measure => simp [intOf]; omega
    · obtain rfl : j = K := by omega
      go_wp2
      go_ret
      exact ⟨rfl, HB.out⟩
theorem shape_seg (S P B : Int) (w : World) : (Instr.field 23 (.agg #[.int .i64 S, .int .i64 P, .int .i64 B]) 0).run Try.prog w = .ok (.int .i64 S) w := by kernel_rfl
theorem shape_bytes (S P B : Int) (w : World) : (Instr.field 23 (.agg #[.int .i64 S, .int .i64 P, .int .i64 B]) 2).run Try.prog w = .ok (.int .i64 B) w := by kernel_rfl
theorem shape_pages (S P B : Int) (w : World) : (Instr.field 23 (.agg #[.int .i64 S, .int .i64 P, .int .i64 B]) 1).run Try.prog w = .ok (.int .i64 P) w := by kernel_rfl
theorem clean_yes (h : Dev w v k S P B db mb L) (s : Int) (hs : W64 s) (hin : 0 ≤ s ∧ s < S) (hu : ∀ p : Int, lk L s p = none) :
    Calls Try.prog 49 #[.pointer (some ⟨db, 0, none⟩), .int .i64 s] w fun e w' => e = .returned (.bool true) ∧ Below w.heap.size w w' := by
  have hp1 := h.shp.p1
  have hp2 := h.shp.p2
  have HD := Lib.hid h
  have HU := Lib.hid hu
  have HWS := Lib.hid hs
  have cp := place_ok h s 0 hs (WalkArith.wf_i64 (by omega)) ⟨hin.1, hin.2, by omega, by omega⟩
  have hfp := shape_pages S P B
  clear h hu hs
  go_enter Try.func49, Try.ntmps49
  go_wp2_with (first
    | (go_at_call 62; (with_reducible refine cp.mono ?_); rintro e w1 ⟨rfl, hb1⟩; have HB1 := Lib.hid hb1; have cs := shape_any (HD.out.below HB1.out); clear hb1 cp)
    | (go_at_call 21; (with_reducible refine cs.mono ?_); rintro e w2 ⟨rfl, hb2⟩; have HB2 := Lib.hid (HB1.out.trans (hb2.mono HB1.out.size)); have cu := unused_yes (HD.out.below HB2.out) s 0 P HWS.out (by omega) (by omega) (by omega) (fun i _ => HU.out _); clear hb2 cs)
    | (go_at_call 63; (with_reducible refine cu.mono ?_); rintro e w3 ⟨rfl, hb3⟩; have HB3 := Lib.hid (HB2.out.trans (hb3.mono HB2.out.size)); clear hb3 cu))
  go_ret
  exact ⟨rfl, HB3.out⟩
end
end Go.Proofs.YtndbjdnfibpicaaR
