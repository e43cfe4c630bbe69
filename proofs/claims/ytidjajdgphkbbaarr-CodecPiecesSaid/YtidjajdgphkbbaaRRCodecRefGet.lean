/-
  The document's GetPiece of layer 17.
-/
import Derived.Test.YtidjajdgphkbbaaRRCodecGot
import Derived.Test.YtidjajdgphkbbaaRRStepBytes
import Derived.Deep.RegionHeld3
import Derived.Deep.DeepCutAuto
namespace Go.Proofs.YtidjajdgphkbbaaRR
open Go.ChangeShapes Go.WideShapes Go.ChangeAt Go.RowKit
set_option maxRecDepth 100000

theorem res_rget {U : World} {tm : Array Value} {b : Nat} {x y z u : Value} (h2 : tm.getD 2 undef = .pointer (some ⟨b, 0, none⟩)) (c0 : U.cell? ⟨b, 0, none⟩ = some x) (c1 : U.cell? ⟨b, 1, none⟩ = some y) (c2 : U.cell? ⟨b, 2, none⟩ = some z) (c3 : U.cell? ⟨b, 3, none⟩ = some u) :
    (results Try.f7 tm).run Try.prog U = .ok (.tuple #[.agg #[x, y, z, u], tm.getD 3 undef]) U := by
  have h5 : tm[2]?.getD undef = .pointer (some ⟨b, 0, none⟩) := by simpa using h2
  simp [results, Try.results7, h5, go_sem, c0, c1, c2, c3, asAddr, loadVar]
section
variable {A : Option Addr} {n c : Nat} {l : List UInt8} {B : Nat} {w : World}
theorem rget_short (hn : n < 7) : Calls Try.prog 7 #[.slice A n c] w (GotPiece Cp.zero (.bool false) w) := by
  have hb0 := below_new4 w (.cells #[.int .i64 0, .int .i64 0, .int .i64 0, .slice none 0 0] 24)
  have F := Four.new w (.int .i64 0) (.int .i64 0) (.int .i64 0) (.slice none 0 0) 24
  obtain ⟨-, c0, c1, c2, c3, f0, f1, f2, f3⟩ := F
  have hd : decide ((n : Int) < 7) = true := decide_eq_true (by omega)
  have HB0 := Lib.hid hb0
  clear hb0
  go_enter Try.func7, Try.ntmps7
  go_wp2
  exact bodyPost_ret (res_rget rfl c0 c1 c2 c3) rfl (got_none rfl HB0.out)
set_option maxHeartbeats 4000000 in
theorem rget_long (hs : Bs w B A n l) (hB : B ≤ w.heap.size) (hnc : n ≤ c) (h7 : 7 ≤ n) (hn : n ≤ 1000) : Calls Try.prog 7 #[.slice A n c] w
    (GotPiece (if (Cp.raw l).right then Cp.raw l else Cp.zero) (.bool (Cp.raw l).right) w) := by
  have hl := hs.1
  obtain ⟨i0, hi0, hz0, hsz0, hby0⟩ := info_parts u8_info
  have HI := Lib.hid hi0
  have HZ := Lib.hid hz0
  have HSZ := Lib.hid hsz0
  have HBY := Lib.hid hby0
  clear hi0 hz0 hsz0 hby0
  have hd : decide ((n : Int) < 7) = false := decide_eq_false (by omega)
  have hcut := cut_from7 A n c h7
  have hc15 : ∀ W, (Instr.slice 22 (.slice A n c) (some (.int .i64 1)) (some (.int .i64 5)) none).run Try.prog W = .ok (.slice (behindN A c 1) 4 (c - 1)) W := fun W => cut_mid A n c 1 5 (by omega) (by omega) W
  have hc57 : ∀ W, (Instr.slice 22 (.slice A n c) (some (.int .i64 5)) (some (.int .i64 7)) none).run Try.prog W = .ok (.slice (behindN A c 5) 2 (c - 5)) W := fun W => cut_mid A n c 5 7 (by omega) (by omega) W
  have hbk := hs.back (k := 7) h7 hnc
  change Bs w B (behindN A c 7) (n - 7) (l.drop 7) at hbk
  have hm1 := hs.mid (j := 1) (k := 5) (by omega) (by omega) hnc
  have hm5 := hs.mid (j := 5) (k := 7) (by omega) (by omega) hnc
  obtain ⟨g, hg⟩ : ∃ o : Int, o = (Fm.num ((l.drop 1).take (5 - 1)) : Nat) := ⟨_, rfl⟩
  obtain ⟨i, hi⟩ : ∃ o : Int, o = (Fm.num ((l.drop 5).take (7 - 5)) : Nat) := ⟨_, rfl⟩
  have hl0 : 0 < l.length := by omega
  have hget : l.getD 0 0 = l[0] := by rw [List.getD_eq_getElem?_getD, List.getElem?_eq_getElem hl0, Option.getD_some]
  obtain ⟨x, hx⟩ : ∃ x : UInt8, x = l[0] := ⟨_, rfl⟩
  rw [← hx] at hget
  have HQ : Hid (Cp.raw l = ⟨(x.toNat : Int), g, i, l.drop 7⟩) := Lib.hid (by unfold Cp.raw; rw [hg, hi, hget])
  obtain ⟨b, off, rfl, hbB, hc⟩ := hs.2 (by omega)
  have he := hc 0 hl0
  rw [Nat.add_zero, ← hx] at he
  have hb0 := below_new4 w (.cells #[.int .i64 0, .int .i64 0, .int .i64 0, .slice none 0 0] 24)
  have hbw : b < w.heap.size := Nat.lt_of_lt_of_le hbB hB
  have HBB := Lib.hid hbw
  have HXI : IntKind.i64.wrap (x.toNat : Int) = (x.toNat : Int) := IntWalk.i64_in _ (by have := x.toNat_lt; omega) 
  have hn1 : (0 : Int) < (n : Int) := by omega
  have hn0 : 0 < n := by omega
  have k1 : ∀ W, Below (w.alloc (.cells #[.int .i64 0, .int .i64 0, .int .i64 0, .slice none 0 0] 24)).heap.size (w.alloc (.cells #[.int .i64 0, .int .i64 0, .int .i64 0, .slice none 0 0] 24)) W → Calls Try.prog 18 #[.slice (behindN (some ⟨b, off, none⟩) c 1) 4 (c - 1)] W fun e w' => e = .returned (.int .i64 g) ∧ W = w' := fun W h => by
    have h1 := number17_any _ 4 (c - 1) _ B W (hm1.below ((hb0.trans (h.mono hb0.size)).mono hB)) (by omega)
    rw [← hg] at h1
    exact h1
  have k2 : ∀ W, Below (w.alloc (.cells #[.int .i64 0, .int .i64 0, .int .i64 0, .slice none 0 0] 24)).heap.size (w.alloc (.cells #[.int .i64 0, .int .i64 0, .int .i64 0, .slice none 0 0] 24)) W → Calls Try.prog 18 #[.slice (behindN (some ⟨b, off, none⟩) c 5) 2 (c - 5)] W fun e w' => e = .returned (.int .i64 i) ∧ W = w' := fun W h => by
    have h1 := number17_any _ 2 (c - 5) _ B W (hm5.below ((hb0.trans (h.mono hb0.size)).mono hB)) (by omega)
    rw [← hi] at h1
    exact h1
  have HZ1 : Hid ((w.alloc (.cells #[.int .i64 0, .int .i64 0, .int .i64 0, .slice none 0 0] 24)).drew.heap.size = w.heap.size + 1) := Lib.hid (by simp)
  have HB1 : Hid (b < (w.alloc (.cells #[.int .i64 0, .int .i64 0, .int .i64 0, .slice none 0 0] 24)).heap.size) := Lib.hid (by simp; omega)
  have HK1 := Lib.hid k1
  have HK2 := Lib.hid k2
  have HBK := Lib.hid (And.intro hbk hB)
  have HBW : Hid (∀ W, Below (w.alloc (.cells #[.int .i64 0, .int .i64 0, .int .i64 0, .slice none 0 0] 24)).heap.size (w.alloc (.cells #[.int .i64 0, .int .i64 0, .int .i64 0, .slice none 0 0] 24)) W → Below w.heap.size w W) := Lib.hid fun W h => hb0.trans (h.mono hb0.size)
  have HE : Hid ((w.alloc (.cells #[.int .i64 0, .int .i64 0, .int .i64 0, .slice none 0 0] 24)).cell? ⟨b, off, none⟩ = some (.int .u8 (x.toNat : Int))) := Lib.hid ((hb0.cell (p := ⟨b, off, none⟩) hbw).trans he)
  have F0 := Lib.hid (Four.new w (.int .i64 0) (.int .i64 0) (.int .i64 0) (.slice none 0 0) 24)
  have HL := Lib.hid hl
  rw [HQ.out]
  have hrt : (Cp.mk (x.toNat : Int) g i (l.drop 7)).right = (Cp.own (x.toNat : Int) g && decide (0 ≤ i ∧ i ≤ 4096 ∧ 1 ≤ n - 7 ∧ n - 7 ≤ 64)) := by
    unfold Cp.right
    simp only [List.length_drop, hl]
  rw [hrt]
  have kf := fun A' k W => rightPiece_any (x.toNat : Int) g i A' (n - 7) k W
  generalize (Cp.own (x.toNat : Int) g && decide (0 ≤ i ∧ i ≤ 4096 ∧ 1 ≤ n - 7 ∧ n - 7 ≤ 64)) = q at *
  have HKF := Lib.hid kf
  clear kf HQ hrt k1 k2 hs hB hbk hm1 hm5 hg hi hl hc he hb0 hbw hbB hl0 hx hget
  go_enter Try.func7, Try.ntmps7
  go_upto_region 3 with fail
  go_cut [4] (fun s4 wx => ∃ nb A' k, s4 = .pointer (some ⟨nb, 0, none⟩) ∧ w.heap.size < nb ∧ Hid (Four wx nb (.int .i64 (x.toNat : Int)) (.int .i64 g) (.int .i64 i) (.slice A' (n - 7) k)) ∧ Hid (Bs wx wx.heap.size A' (n - 7) (l.drop 7) ∧ n - 7 ≤ k ∧ ∀ a : Addr, A' = some a → w.heap.size < a.block) ∧ Hid (Four wx w.heap.size (.int .i64 0) (.int .i64 0) (.int .i64 0) (.slice none 0 0)) ∧ Hid (Below w.heap.size w wx))
  case first =>
    have hE := HE.out
    go_region_held3 (fun W => Below (w.alloc (.cells #[.int .i64 0, .int .i64 0, .int .i64 0, .slice none 0 0] 24)).heap.size (w.alloc (.cells #[.int .i64 0, .int .i64 0, .int .i64 0, .slice none 0 0] 24)) W ∧ W.cell? ⟨b, off, none⟩ = some (.int .u8 (x.toNat : Int)))
      (first
        | assumption
        | exact ⟨(Below.refl _ _).drew, hE⟩
        | exact keep_alloc (by assumption) HB1.out
        | exact keep_set4 (by assumption) HB1.out (by first | exact Nat.le_refl _ | exact hS3.1.size | simp))
      ((first
        | (go_at_call 18; (with_reducible refine (HK1.out _ (And.left (by assumption))).mono ?_); rintro e w1 ⟨rfl, rfl⟩)
        | (go_at_call 18; (with_reducible refine (HK2.out _ (And.left (by assumption))).mono ?_); rintro e w1 ⟨rfl, rfl⟩)
        | (refine step_append_bytes (by rfl) _ _ _ (by rfl) _ 5 i0 Try.underlying22 HI.out HZ.out HSZ.out HBY.out (.slice none 0 0) 0 [] (by rfl) (World.ownsRow_nil _ _ _ _) B (behindN (some ⟨b, off, none⟩) c 7) (n - 7) (c - 7) (l.drop 7) (by rfl) (HBK.out.1.below ((HBW.out _ (And.left (by assumption))).mono HBK.out.2)) (by omega) (Nat.le_refl _) ?_; intro A3 c3 w3 ho3 hg3; have hb3 := (Below.refl _ _).grown hg3 (Nat.le_refl _) (by simp [Value.ownBlock]); have hS3 := keep_grown (by assumption) HB1.out hb3; have HO3 := Lib.hid ho3; have hf3 := (Four.new (w.alloc (.cells #[.int .i64 0, .int .i64 0, .int .i64 0, .slice none 0 0] 24)).drew (.int .i64 0) (.int .i64 0) (.int .i64 0) (.slice none 0 0) 24).below (w' := w3) (by exact hb3); rw [HZ1.out] at hf3; have F3 := Lib.hid hf3; obtain ⟨-, c0, c1, c2, c3', f0, f1, f2, f3⟩ := hf3)
        | (refine step_append_bytes (by rfl) _ _ _ (by rfl) _ 5 i0 Try.underlying22 HI.out HZ.out HSZ.out HBY.out (.slice none 0 0) 0 [] (by rfl) (World.ownsRow_nil _ _ _ _) B (behindN (some ⟨b, off, none⟩) c 7) (n - 7) (c - 7) (l.drop 7) (by rfl) (HBK.out.1.below ((HBW.out _ (And.left (by assumption))).mono HBK.out.2)) (by omega) (Nat.le_refl _) ?_; intro A3 c3 w3 ho3 hg3; have hb3 := (Below.refl _ _).grown hg3 (Nat.le_refl _) (by simp [Value.ownBlock]); have hS3 := keep_grown (by assumption) HB1.out hb3; have HO3 := Lib.hid ho3)))
    all_goals (go_wp2_with (fail); go_meet)
    all_goals
      have hsz := hS3.1.size
      rw [show (w.alloc (.cells #[.int .i64 0, .int .i64 0, .int .i64 0, .slice none 0 0] 24)).heap.size = w.heap.size + 1 by simp] at hsz
      have ho := HO3.out
      rw [Nat.zero_add, List.nil_append] at ho
      obtain ⟨A9, k9, e9, hs3, hc3⟩ := own_bs ho
      injection e9 with e9 _ e9'
      subst e9 e9'
      have hn3 := fun (a : Addr) (ha : A3 = some a) => (ho.lt a.block (by rw [ha]; rfl)).1
    all_goals first
      | (have hF := F3.out.set (x := .int .i64 (x.toNat : Int)) (y := .int .i64 g) (z := .int .i64 i) (u := .slice A3 (n - 7) c3)
         have hn4 : ∀ a : Addr, A3 = some a → w.heap.size + 1 < a.block := fun a ha => by have := hn3 a ha; simp at this; omega
         have hB := hs3.far4 (m := w.heap.size + 1) (x := .int .i64 (x.toNat : Int)) (y := .int .i64 g) (z := .int .i64 i) (u := .slice A3 (n - 7) c3) (fun a ha => Nat.ne_of_gt (hn4 a ha))
         refine ⟨w.heap.size + 1, A3, c3, rfl, Nat.lt_succ_self _, Lib.hid hF, Lib.hid ⟨?_, hc3, fun a ha => Nat.lt_trans (Nat.lt_succ_self _) (hn4 a ha)⟩, Lib.hid ?_, Lib.hid ?_⟩
         · refine hB.mono ?_
           simp
         · exact F0.out.below (And.left (by assumption))
         · exact HBW.out _ (And.left (by assumption)))
      | (have hn4 : ∀ a : Addr, A3 = some a → w.heap.size + 1 ≤ a.block := fun a ha => by have := hn3 a ha; simp at this; omega
         have hB := (hs3.alloc (Nat.le_refl _) (.cells #[.int .i64 (x.toNat : Int), .int .i64 g, .int .i64 i, .slice A3 (n - 7) c3] 24)).mono (B' := (w3.alloc (.cells #[.int .i64 (x.toNat : Int), .int .i64 g, .int .i64 i, .slice A3 (n - 7) c3] 24)).heap.size) (by simp)
         refine ⟨w3.heap.size, A3, c3, rfl, hsz, Lib.hid (Four.new w3 _ _ _ _ _), Lib.hid ⟨hB, hc3, fun a ha => hn4 a ha⟩, Lib.hid ?_, Lib.hid ?_⟩
         · exact F0.out.below (And.left (by assumption))
         · exact HBW.out _ (And.left (by assumption)))
  case rest =>
    obtain ⟨nb, A', k, rfl, hlt, F, HS, FR, HB⟩ := hcut
    clear HK1 HK2 HBW F0 HZ1 hc15 hc57 hd HE HBK
    have cf := HKF.out A' k wc
    obtain ⟨-, c0, c1, c2, c3, -⟩ := F.out
    cases q
    · go_wp2_with (go_at_call 9; (with_reducible refine cf.mono ?_); rintro e w2 ⟨rfl, hb2⟩; have FR2 := Lib.hid (FR.out.below hb2); obtain ⟨-, d0, d1, d2, d3, f0, f1, f2, f3⟩ := FR2.out; have HB2 := Lib.hid (HB.out.trans (hb2.mono HB.out.size)); clear cf hb2)
      obtain ⟨-, d0, d1, d2, d3, -⟩ := Four.set (x := .int .i64 0) (y := .int .i64 0) (z := .int .i64 0) (u := .slice none 0 0) FR2.out
      exact bodyPost_ret (res_rget rfl d0 d1 d2 d3) rfl (got_none rfl (below_set4 HB2.out (Nat.le_refl _) _ _ _ _))
    · go_wp2_with (go_at_call 9; (with_reducible refine cf.mono ?_); rintro e w2 ⟨rfl, hb2⟩; have FR2 := Lib.hid (FR.out.below hb2); obtain ⟨-, d0, d1, d2, d3, f0, f1, f2, f3⟩ := FR2.out; have HB2 := Lib.hid (HB.out.trans (hb2.mono HB.out.size)); have F2 := Lib.hid (F.out.below hb2); obtain ⟨-, c0, c1, c2, c3, -⟩ := F2.out; have HS2 := Lib.hid (HS.out.1.below hb2); have HZ2 := Lib.hid hb2.size; clear cf hb2)
      obtain ⟨-, d0, d1, d2, d3, -⟩ := Four.set (x := .int .i64 (x.toNat : Int)) (y := .int .i64 g) (z := .int .i64 i) (u := .slice A' (n - 7) k) FR2.out
      have hlen : (l.drop 7).length = n - 7 := by rw [List.length_drop, HL.out]
      have hB := (HS2.out.far4 (m := w.heap.size) (x := .int .i64 (x.toNat : Int)) (y := .int .i64 g) (z := .int .i64 i) (u := .slice A' (n - 7) k) (fun a ha => Nat.ne_of_gt (HS.out.2.2 a ha)))
      refine bodyPost_ret (res_rget rfl d0 d1 d2 d3) rfl ⟨A', k, ?_, ?_, ?_, below_set4 HB2.out (Nat.le_refl _) _ _ _ _⟩
      · dsimp only
        rw [hlen]
        rfl
      · dsimp only
        rw [hlen]
        refine hB.mono ?_
        simpa using HZ2.out
      · dsimp only
        rw [hlen]
        exact HS.out.2.1
/-- any bytes as a piece -/
theorem rget_any (hs : Bs w B A n l) (hB : B ≤ w.heap.size) (hnc : n ≤ c) (hn : n ≤ 1000) : Calls Try.prog 7 #[.slice A n c] w
    (GotPiece ((Cp.get l).getD Cp.zero) (.bool (Cp.get l).isSome) w) := by
  have hl := hs.1
  unfold Cp.get
  rw [hl]
  by_cases h7 : n < 7
  · rw [if_pos h7]
    exact rget_short h7
  · rw [if_neg h7]
    have h := rget_long hs hB hnc (by omega) hn
    cases hr : (Cp.raw l).right <;> rw [hr] at h <;> exact h
end
end Go.Proofs.YtidjajdgphkbbaaRR
