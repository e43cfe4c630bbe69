/-
  codec.GetPiece for any bytes.
-/
import Derived.Test.YtidjajdgphkbbaaRRCodecGot
import Derived.Test.YtidjajdgphkbbaaRRCodecNumber
import Derived.Test.YtidjajdgphkbbaaRRCodecPut
import Derived.Deep.RegionHeld3
import Derived.Deep.DeepCutAuto
namespace Go.Proofs.YtidjajdgphkbbaaRR
open Go.ChangeShapes Go.WideShapes Go.ChangeAt Go.RowKit
set_option maxRecDepth 100000

theorem res_cget {U : World} {tm : Array Value} {b : Nat} {x y z u : Value} (h2 : tm.getD 2 undef = .pointer (some ⟨b, 0, none⟩)) (c0 : U.cell? ⟨b, 0, none⟩ = some x) (c1 : U.cell? ⟨b, 1, none⟩ = some y) (c2 : U.cell? ⟨b, 2, none⟩ = some z) (c3 : U.cell? ⟨b, 3, none⟩ = some u) :
    (results Try.f6 tm).run Try.prog U = .ok (.tuple #[.agg #[x, y, z, u], tm.getD 3 undef]) U := by
  have h5 : tm[2]?.getD undef = .pointer (some ⟨b, 0, none⟩) := by simpa using h2
  simp [results, Try.results6, h5, go_sem, c0, c1, c2, c3, asAddr, loadVar]
section
variable {A : Option Addr} {n c : Nat} {l : List UInt8} {B : Nat} {w : World}
theorem cget_short (hn : n < 7) : Calls Try.prog 6 #[.slice A n c] w (GotPiece Cp.zero (.int .i64 3) w) := by
  have hb0 := below_new4 w (.cells #[.int .i64 0, .int .i64 0, .int .i64 0, .slice none 0 0] 24)
  have F := Four.new w (.int .i64 0) (.int .i64 0) (.int .i64 0) (.slice none 0 0) 24
  obtain ⟨-, c0, c1, c2, c3, f0, f1, f2, f3⟩ := F
  have hd : decide ((n : Int) < 7) = true := decide_eq_true (by omega)
  have HB0 := Lib.hid hb0
  clear hb0
  go_enter Try.func6, Try.ntmps6
  go_wp2
  exact bodyPost_ret (res_cget rfl c0 c1 c2 c3) rfl (got_none rfl HB0.out)
set_option maxHeartbeats 4000000 in
theorem cget_long (hs : Bs w B A n l) (hB : B ≤ w.heap.size) (hnc : n ≤ c) (h7 : 7 ≤ n) (hn : n ≤ 1000) : Calls Try.prog 6 #[.slice A n c] w
    (GotPiece (if (Cp.raw l).right then Cp.raw l else Cp.zero) (.int .i64 (if (Cp.raw l).right then 0 else 3)) w) := by
  have hl := hs.1
  have hd : decide ((n : Int) < 7) = false := decide_eq_false (by omega)
  have hcut := cut_from7 A n c h7
  have hbk := hs.back (k := 7) h7 hnc
  change Bs w B (behindN A c 7) (n - 7) (l.drop 7) at hbk
  obtain ⟨o, ho⟩ : ∃ o : Int, o = ((l.getD 0 0).toNat : Int) := ⟨_, rfl⟩
  obtain ⟨g, hg⟩ : ∃ o : Int, o = (Fm.num ((l.drop 1).take (5 - 1)) : Nat) := ⟨_, rfl⟩
  obtain ⟨i, hi⟩ : ∃ o : Int, o = (Fm.num ((l.drop 5).take (7 - 5)) : Nat) := ⟨_, rfl⟩
  have hbW : ∀ W, Below (w.alloc (.cells #[.int .i64 0, .int .i64 0, .int .i64 0, .slice none 0 0] 24)).heap.size (w.alloc (.cells #[.int .i64 0, .int .i64 0, .int .i64 0, .slice none 0 0] 24)) W → Below w.heap.size w W := fun W h => by
    have h0 := below_new4 w (.cells #[.int .i64 0, .int .i64 0, .int .i64 0, .slice none 0 0] 24)
    exact h0.trans (h.mono h0.size)
  have HBW := Lib.hid hbW
  have k1 : ∀ W, Below (w.alloc (.cells #[.int .i64 0, .int .i64 0, .int .i64 0, .slice none 0 0] 24)).heap.size (w.alloc (.cells #[.int .i64 0, .int .i64 0, .int .i64 0, .slice none 0 0] 24)) W → Calls Try.prog 16 #[.slice A n c, .int .i64 0, .int .i64 1] W fun e w' => e = .returned (.int .i64 o) ∧ W = w' := fun W h => by
    have h1 := cnumber_any A n c 0 1 0 1 l B W (hs.below ((hbW W h).mono hB)) hnc (by omega) (by omega) (by omega) (by omega) rfl rfl
    rw [num_one (by omega), ← ho] at h1
    exact h1
  have k2 : ∀ W, Below (w.alloc (.cells #[.int .i64 0, .int .i64 0, .int .i64 0, .slice none 0 0] 24)).heap.size (w.alloc (.cells #[.int .i64 0, .int .i64 0, .int .i64 0, .slice none 0 0] 24)) W → Calls Try.prog 16 #[.slice A n c, .int .i64 1, .int .i64 5] W fun e w' => e = .returned (.int .i64 g) ∧ W = w' := fun W h => by
    have h1 := cnumber_any A n c 1 5 1 5 l B W (hs.below ((hbW W h).mono hB)) hnc (by omega) (by omega) (by omega) (by omega) rfl rfl
    rw [← hg] at h1
    exact h1
  have k3 : ∀ W, Below (w.alloc (.cells #[.int .i64 0, .int .i64 0, .int .i64 0, .slice none 0 0] 24)).heap.size (w.alloc (.cells #[.int .i64 0, .int .i64 0, .int .i64 0, .slice none 0 0] 24)) W → Calls Try.prog 16 #[.slice A n c, .int .i64 5, .int .i64 7] W fun e w' => e = .returned (.int .i64 i) ∧ W = w' := fun W h => by
    have h1 := cnumber_any A n c 5 7 5 7 l B W (hs.below ((hbW W h).mono hB)) hnc (by omega) (by omega) (by omega) (by omega) rfl rfl
    rw [← hi] at h1
    exact h1
  have k4 : ∀ W, Below (w.alloc (.cells #[.int .i64 0, .int .i64 0, .int .i64 0, .slice none 0 0] 24)).heap.size (w.alloc (.cells #[.int .i64 0, .int .i64 0, .int .i64 0, .slice none 0 0] 24)) W → Calls Try.prog 17 #[.slice (behindN A c 7) (n - 7) (c - 7)] W fun e w' =>
      ∃ A' c', e = .returned (.slice A' (n - 7) c') ∧ Bs w' w'.heap.size A' (n - 7) (l.drop 7) ∧ n - 7 ≤ c' ∧ Below W.heap.size W w' ∧ (∀ a : Addr, A' = some a → W.heap.size ≤ a.block) ∧ Below (w.alloc (.cells #[.int .i64 0, .int .i64 0, .int .i64 0, .slice none 0 0] 24)).heap.size (w.alloc (.cells #[.int .i64 0, .int .i64 0, .int .i64 0, .slice none 0 0] 24)) w' := fun W h => by
    refine (bytesClone_any _ _ _ _ B W (hbk.below ((hbW W h).mono hB)) (Nat.le_trans hB (hbW W h).size) (by omega)).mono ?_
    rintro e w' ⟨A', c', h1, h2, h3, h4, h5⟩
    exact ⟨A', c', h1, h2, h3, h4, h5, h.trans (h4.mono h.size)⟩
  have HZ1 : Hid ((w.alloc (.cells #[.int .i64 0, .int .i64 0, .int .i64 0, .slice none 0 0] 24)).drew.heap.size = w.heap.size + 1) := Lib.hid (by simp)
  have HK1 := Lib.hid k1
  have HK2 := Lib.hid k2
  have HK3 := Lib.hid k3
  have HK4 := Lib.hid k4
  have F0 := Lib.hid (Four.new w (.int .i64 0) (.int .i64 0) (.int .i64 0) (.slice none 0 0) 24)
  have HQ : Hid ((Cp.raw l).right = pieceB o g i (n - 7) ∧ Cp.raw l = ⟨o, g, i, l.drop 7⟩) := Lib.hid (by
    have e : Cp.raw l = ⟨o, g, i, l.drop 7⟩ := by unfold Cp.raw; rw [ho, hg, hi]
    refine ⟨?_, e⟩
    rw [e]
    unfold Cp.right pieceB
    simp only [List.length_drop, hl])
  have HL := Lib.hid hl
  rw [HQ.out.1, HQ.out.2]
  have kf := fun A' k W => pieceFits_any o g i A' (n - 7) k W
  generalize pieceB o g i (n - 7) = q at *
  have HKF := Lib.hid kf
  clear kf HQ
  clear k1 k2 k3 k4 hbW hs hB hbk ho hg hi hl
  go_enter Try.func6, Try.ntmps6
  go_upto_region 3 with fail
  go_cut [4] (fun s4 wx => ∃ nb A' k, s4 = .pointer (some ⟨nb, 0, none⟩) ∧ w.heap.size < nb ∧ Hid (Four wx nb (.int .i64 o) (.int .i64 g) (.int .i64 i) (.slice A' (n - 7) k)) ∧ Hid (Bs wx wx.heap.size A' (n - 7) (l.drop 7) ∧ n - 7 ≤ k ∧ ∀ a : Addr, A' = some a → w.heap.size < a.block) ∧ Hid (Four wx w.heap.size (.int .i64 0) (.int .i64 0) (.int .i64 0) (.slice none 0 0)) ∧ Hid (Below w.heap.size w wx))
  case first =>
    go_region_held3 (fun W => Below (w.alloc (.cells #[.int .i64 0, .int .i64 0, .int .i64 0, .slice none 0 0] 24)).heap.size (w.alloc (.cells #[.int .i64 0, .int .i64 0, .int .i64 0, .slice none 0 0] 24)) W)
      (first
        | assumption
        | exact (Below.refl _ _).drew
        | exact Below.alloc (by assumption) (Below.size (by assumption)) _
        | exact below_set4 (by assumption) (by first | exact Nat.le_refl _ | exact HB3.out.size | simp) _ _ _ _)
      ((first
        | (go_at_call 16; (with_reducible refine (HK1.out _ (by assumption)).mono ?_); rintro e w1 ⟨rfl, rfl⟩)
        | (go_at_call 16; (with_reducible refine (HK2.out _ (by assumption)).mono ?_); rintro e w1 ⟨rfl, rfl⟩)
        | (go_at_call 16; (with_reducible refine (HK3.out _ (by assumption)).mono ?_); rintro e w1 ⟨rfl, rfl⟩)
        | (go_at_call 17; (with_reducible refine (HK4.out _ (by assumption)).mono ?_); rintro e w3 ⟨A3, c3, rfl, hs3, hc3, hb3, hn3, hS3⟩; have hf3 := (Four.new (w.alloc (.cells #[.int .i64 0, .int .i64 0, .int .i64 0, .slice none 0 0] 24)).drew (.int .i64 0) (.int .i64 0) (.int .i64 0) (.slice none 0 0) 24).below (w' := w3) (by exact hb3); rw [HZ1.out] at hf3; have F3 := Lib.hid hf3; obtain ⟨-, c0, c1, c2, c3', f0, f1, f2, f3⟩ := hf3; have HB3 := Lib.hid hb3)
        | (go_at_call 17; (with_reducible refine (HK4.out _ (by assumption)).mono ?_); rintro e w3 ⟨A3, c3, rfl, hs3, hc3, hb3, hn3, hS3⟩; have HB3 := Lib.hid hb3)))
    all_goals (go_wp2_with (fail); go_meet)
    all_goals
      have hsz := hS3.size
      rw [show (w.alloc (.cells #[.int .i64 0, .int .i64 0, .int .i64 0, .slice none 0 0] 24)).heap.size = w.heap.size + 1 by simp] at hsz
    all_goals first
      | (have hF := F3.out.set (x := .int .i64 o) (y := .int .i64 g) (z := .int .i64 i) (u := .slice A3 (n - 7) c3)
         have hn4 : ∀ a : Addr, A3 = some a → w.heap.size + 1 < a.block := fun a ha => by have := hn3 a ha; simp at this; omega
         have hB := hs3.far4 (m := w.heap.size + 1) (x := .int .i64 o) (y := .int .i64 g) (z := .int .i64 i) (u := .slice A3 (n - 7) c3) (fun a ha => Nat.ne_of_gt (hn4 a ha))
         refine ⟨w.heap.size + 1, A3, c3, rfl, Nat.lt_succ_self _, Lib.hid hF, Lib.hid ⟨?_, hc3, fun a ha => Nat.lt_trans (Nat.lt_succ_self _) (hn4 a ha)⟩, Lib.hid ?_, Lib.hid ?_⟩
         · refine hB.mono ?_
           simp
         · exact F0.out.below (by assumption)
         · exact HBW.out _ (by assumption))
      | (have hn4 : ∀ a : Addr, A3 = some a → w.heap.size + 1 ≤ a.block := fun a ha => by have := hn3 a ha; simp at this; omega
         have hB := (hs3.alloc (Nat.le_refl _) (.cells #[.int .i64 o, .int .i64 g, .int .i64 i, .slice A3 (n - 7) c3] 24)).mono (B' := (w3.alloc (.cells #[.int .i64 o, .int .i64 g, .int .i64 i, .slice A3 (n - 7) c3] 24)).heap.size) (by simp)
         refine ⟨w3.heap.size, A3, c3, rfl, hsz, Lib.hid (Four.new w3 _ _ _ _ _), Lib.hid ⟨hB, hc3, fun a ha => hn4 a ha⟩, Lib.hid ?_, Lib.hid ?_⟩
         · exact F0.out.below (by assumption)
         · exact HBW.out _ (by assumption))
  case rest =>
    obtain ⟨nb, A', k, rfl, hlt, F, HS, FR, HB⟩ := hcut
    clear HK1 HK2 HK3 HK4 HBW F0 HZ1 hcut hd
    have cf := HKF.out A' k wc
    obtain ⟨-, c0, c1, c2, c3, -⟩ := F.out
    cases q
    · go_wp2_with (go_at_call 13; (with_reducible refine cf.mono ?_); rintro e w2 ⟨rfl, hb2⟩; have FR2 := Lib.hid (FR.out.below hb2); obtain ⟨-, d0, d1, d2, d3, f0, f1, f2, f3⟩ := FR2.out; have HB2 := Lib.hid (HB.out.trans (hb2.mono HB.out.size)); clear cf hb2)
      obtain ⟨-, d0, d1, d2, d3, -⟩ := Four.set (x := .int .i64 0) (y := .int .i64 0) (z := .int .i64 0) (u := .slice none 0 0) FR2.out
      exact bodyPost_ret (res_cget rfl d0 d1 d2 d3) rfl (got_none rfl (below_set4 HB2.out (Nat.le_refl _) _ _ _ _))
    · go_wp2_with (go_at_call 13; (with_reducible refine cf.mono ?_); rintro e w2 ⟨rfl, hb2⟩; have FR2 := Lib.hid (FR.out.below hb2); obtain ⟨-, d0, d1, d2, d3, f0, f1, f2, f3⟩ := FR2.out; have HB2 := Lib.hid (HB.out.trans (hb2.mono HB.out.size)); have F2 := Lib.hid (F.out.below hb2); obtain ⟨-, c0, c1, c2, c3, -⟩ := F2.out; have HS2 := Lib.hid (HS.out.1.below hb2); have HZ2 := Lib.hid hb2.size; clear cf hb2)
      obtain ⟨-, d0, d1, d2, d3, -⟩ := Four.set (x := .int .i64 o) (y := .int .i64 g) (z := .int .i64 i) (u := .slice A' (n - 7) k) FR2.out
      have hlen : (l.drop 7).length = n - 7 := by rw [List.length_drop, HL.out]
      have hB := (HS2.out.far4 (m := w.heap.size) (x := .int .i64 o) (y := .int .i64 g) (z := .int .i64 i) (u := .slice A' (n - 7) k) (fun a ha => Nat.ne_of_gt (HS.out.2.2 a ha)))
      refine bodyPost_ret (res_cget rfl d0 d1 d2 d3) rfl ⟨A', k, ?_, ?_, ?_, below_set4 HB2.out (Nat.le_refl _) _ _ _ _⟩
      · dsimp only
        rw [hlen]
        rfl
      · dsimp only
        rw [hlen]
        refine hB.mono ?_
        simpa using HZ2.out
      · dsimp only
        rw [hlen]
        exact HS.out.2.1
/-- any bytes as a piece -/
theorem cget_any (hs : Bs w B A n l) (hB : B ≤ w.heap.size) (hnc : n ≤ c) (hn : n ≤ 1000) : Calls Try.prog 6 #[.slice A n c] w
    (GotPiece ((Cp.get l).getD Cp.zero) (.int .i64 (if (Cp.get l).isSome then 0 else 3)) w) := by
  have hl := hs.1
  unfold Cp.get
  rw [hl]
  by_cases h7 : n < 7
  · rw [if_pos h7]
    exact cget_short h7
  · rw [if_neg h7]
    have h := cget_long hs hB hnc (by omega) hn
    cases hr : (Cp.raw l).right <;> rw [hr] at h <;> exact h
end
end Go.Proofs.YtidjajdgphkbbaaRR
