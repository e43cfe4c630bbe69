/-
  The walk of the statement on pieces.
-/
import Derived.Test.YtidjajdgphkbbaaRRCodecGet
import Derived.Test.YtidjajdgphkbbaaRRCodecRefGet
import Derived.Test.YtidjajdgphkbbaaRRCodecRefPut
import Derived.Test.YtidjajdgphkbbaaRRCodecRefSame
namespace Go.Proofs.YtidjajdgphkbbaaRR
open Go.ChangeShapes Go.WideShapes Go.ChangeAt Go.RowKit
set_option maxRecDepth 100000

section
variable {o g i : Int} {A : Option Addr} {n c : Nat} {l : List UInt8} {A2 : Option Addr} {n2 c2 : Nat} {l2 : List UInt8} {w : World}
theorem codecPieces_long (h : 200 < n ∨ 300 < n2) : Calls Try.prog 3 #[pieceV o g i A n c, .slice A2 n2 c2] w fun e w' => e = .returned (.bool true) ∧ Below w.heap.size w w' := by
  have h0 := below_new4 w (.cells #[.int .i64 o, .int .i64 g, .int .i64 i, .slice A n c] 24)
  have ha := awake17 (w.alloc (.cells #[.int .i64 o, .int .i64 g, .int .i64 i, .slice A n c] 24))
  have HT := Lib.hid (Four.new w (.int .i64 o) (.int .i64 g) (.int .i64 i) (.slice A n c) 24)
  have HB0 := Lib.hid h0
  clear h0
  by_cases h1 : 200 < n
  case' pos => have d1 : decide ((200 : Int) < (n : Int)) = true := decide_eq_true (by omega)
  case' neg =>
    have d1 : decide ((200 : Int) < (n : Int)) = false := decide_eq_false (by omega)
    have d2 : decide ((300 : Int) < (n2 : Int)) = true := decide_eq_true (by omega)
  all_goals
    clear h h1
    go_enter Try.func3, Try.ntmps3
    go_wp2_with (go_at_call 4; (with_reducible refine ha.mono ?_); rintro e w1 ⟨rfl, hb1⟩; obtain ⟨-, c0, c1, c2, c3, -⟩ := HT.out.below hb1; have HB1 := Lib.hid (HB0.out.trans (hb1.mono HB0.out.size)); clear hb1)
    go_ret
    exact ⟨rfl, HB1.out⟩
set_option maxHeartbeats 8000000 in
theorem codecPieces_no (hs2 : Bs w w.heap.size A2 n2 l2) (hc2 : n2 ≤ c2) (h1 : ¬ 200 < n) (h2 : ¬ 300 < n2) (hp : pieceB o g i n = false) :
    Calls Try.prog 3 #[pieceV o g i A n c, .slice A2 n2 c2] w fun e w' => e = .returned (.bool true) ∧ Below w.heap.size w w' := by
  have h0 := below_new4 w (.cells #[.int .i64 o, .int .i64 g, .int .i64 i, .slice A n c] 24)
  have ha := awake17 (w.alloc (.cells #[.int .i64 o, .int .i64 g, .int .i64 i, .slice A n c] 24))
  have HT := Lib.hid (Four.new w (.int .i64 o) (.int .i64 g) (.int .i64 i) (.slice A n c) 24)
  have HB0 := Lib.hid h0
  have d1 : decide ((200 : Int) < (n : Int)) = false := decide_eq_false (by omega)
  have d2 : decide ((300 : Int) < (n2 : Int)) = false := decide_eq_false (by omega)
  have HS2 := Lib.hid hs2
  have kp := fun W => putPiece_no o g i A n c W hp
  have kr := fun W => rightPiece_any o g i A n c W
  change ∀ W, Calls _ _ _ _ (fun e w' => e = .returned (.bool (pieceB o g i n)) ∧ _) at kr
  rw [hp] at kr
  have kg : ∀ W, Below w.heap.size w W → Calls Try.prog 6 #[.slice A2 n2 c2] W (GotPiece ((Cp.get l2).getD Cp.zero) (.int .i64 (if (Cp.get l2).isSome then 0 else 3)) W) := fun W h => cget_any (hs2.below h) h.size hc2 (by omega)
  have kd : ∀ W, Below w.heap.size w W → Calls Try.prog 7 #[.slice A2 n2 c2] W (GotPiece ((Cp.get l2).getD Cp.zero) (.bool (Cp.get l2).isSome) W) := fun W h => rget_any (hs2.below h) h.size hc2 (by omega)
  obtain ⟨q, hq⟩ : ∃ q, (Cp.get l2).isSome = q := ⟨_, rfl⟩
  have HQB : Hid (((Cp.get l2).getD Cp.zero).body.length ≤ 300) := Lib.hid (by
    cases hg : Cp.get l2 with
    | none => exact Nat.zero_le _
    | some y =>
      obtain ⟨-, -, hr⟩ := Cp.get_right hg
      obtain ⟨-, -, -, -, h⟩ := Cp.right_own hr
      show y.body.length ≤ 300
      omega)
  rw [hq] at kg kd
  generalize (Cp.get l2).getD Cp.zero = y at *
  obtain ⟨yo, yg, yi, yb⟩ := y
  have KP := Lib.hid kp
  have KR := Lib.hid kr
  clear h0 hs2 h1 h2 hp hq kp kr
  cases q
  case' false =>
    change ∀ W, Below w.heap.size w W → Calls Try.prog 6 #[.slice A2 n2 c2] W (GotPiece ⟨yo, yg, yi, yb⟩ (.int .i64 3) W) at kg
    have KG := Lib.hid kg
    have KD := Lib.hid kd
    clear kg kd
  case' true =>
    change ∀ W, Below w.heap.size w W → Calls Try.prog 6 #[.slice A2 n2 c2] W (GotPiece ⟨yo, yg, yi, yb⟩ (.int .i64 0) W) at kg
    have KG := Lib.hid kg
    have KD := Lib.hid kd
    clear kg kd
  all_goals
    go_enter Try.func3, Try.ntmps3
    go_wp2_with (first
      | (go_at_call 4; (with_reducible refine ha.mono ?_); rintro e w1 ⟨rfl, hb1⟩; have FX1 := Lib.hid (HT.out.below hb1); obtain ⟨-, c0, c1, c2, c3, -⟩ := FX1.out; have HB1 := Lib.hid (HB0.out.trans (hb1.mono HB0.out.size)); clear hb1 ha)
      | (go_at_call 5; (with_reducible refine (KP.out w1).mono ?_); rintro e w2 ⟨rfl, hb2⟩; have FX2 := Lib.hid (FX1.out.below hb2); have HB2 := Lib.hid (HB1.out.trans (hb2.mono HB1.out.size)); clear hb2 c0 c1 c2 c3)
      | (go_at_call 6; (with_reducible refine (KG.out w2 HB2.out).mono ?_); rintro e w3 ⟨Ay, ky, rfl, hs3, hk3, hb3⟩; (try dsimp only at hs3); have HS3 := Lib.hid (hs3.alloc (Nat.le_refl _) (.cells #[.int .i64 yo, .int .i64 yg, .int .i64 yi, .slice Ay yb.length ky] 24)); have FY3 := Lib.hid (Four.new w3 (.int .i64 yo) (.int .i64 yg) (.int .i64 yi) (.slice Ay yb.length ky) 24); have FX3 := Lib.hid ((FX2.out.below hb3).alloc (.cells #[.int .i64 yo, .int .i64 yg, .int .i64 yi, .slice Ay yb.length ky] 24)); have HB3 := Lib.hid ((HB2.out.trans (hb3.mono HB2.out.size)).alloc (HB2.out.trans (hb3.mono HB2.out.size)).size (.cells #[.int .i64 yo, .int .i64 yg, .int .i64 yi, .slice Ay yb.length ky] 24)); clear hs3 hk3 hb3)
      | (go_at_call 7; (with_reducible refine (KD.out _ HB3.out).mono ?_); rintro e w4 ⟨Az, kz, rfl, hs4, hk4, hb4⟩; (try dsimp only at hs4); have HS4 := Lib.hid (hs4.alloc (Nat.le_refl _) (.cells #[.int .i64 yo, .int .i64 yg, .int .i64 yi, .slice Az yb.length kz] 24)); have HY4 := Lib.hid (((HS3.out.mono (by simp)).below hb4).alloc hb4.size (.cells #[.int .i64 yo, .int .i64 yg, .int .i64 yi, .slice Az yb.length kz] 24)); have FY4 := Lib.hid ((FY3.out.below hb4).alloc (.cells #[.int .i64 yo, .int .i64 yg, .int .i64 yi, .slice Az yb.length kz] 24)); have FX4 := Lib.hid ((FX3.out.below hb4).alloc (.cells #[.int .i64 yo, .int .i64 yg, .int .i64 yi, .slice Az yb.length kz] 24)); have HB4 := Lib.hid ((HB3.out.trans (hb4.mono HB3.out.size)).alloc (HB3.out.trans (hb4.mono HB3.out.size)).size (.cells #[.int .i64 yo, .int .i64 yg, .int .i64 yi, .slice Az yb.length kz] 24)); obtain ⟨-, c0, c1, c2, c3, -⟩ := FY4.out; have cs := same17_any yo yg yi yo yg yi Ay Az yb.length ky yb.length kz yb yb (w4.alloc (.cells #[.int .i64 yo, .int .i64 yg, .int .i64 yi, .slice Az yb.length kz] 24)).heap.size _ (HY4.out.mono (by have := hb4.size; simp at this ⊢; omega)) (HS4.out.mono (by simp)) (Nat.le_refl _) (by have := HQB.out; (try dsimp only at this); omega); simp only [beq_self_eq_true, decide_true, Bool.and_self] at cs; clear hs4 hk4 hb4)
      | (go_at_call 8; (with_reducible refine cs.mono ?_); rintro e w5 ⟨rfl, hb5⟩; have FX5 := Lib.hid (FX4.out.below hb5); clear c0 c1 c2 c3; obtain ⟨-, c0, c1, c2, c3, -⟩ := FX5.out; have HB5 := Lib.hid (HB4.out.trans (hb5.mono HB4.out.size)); clear hb5 cs)
      | (go_at_call 9; (with_reducible refine (KR.out w5).mono ?_); rintro e w6 ⟨rfl, hb6⟩; have HB6 := Lib.hid (HB5.out.trans (hb6.mono HB5.out.size)); clear hb6 c0 c1 c2 c3))
    go_ret
    exact ⟨rfl, HB6.out⟩
set_option maxHeartbeats 8000000 in
theorem codecPieces_yes (hs : Bs w w.heap.size A n l) (hs2 : Bs w w.heap.size A2 n2 l2) (hc2 : n2 ≤ c2) (h1 : ¬ 200 < n) (h2 : ¬ 300 < n2) (hp : pieceB o g i n = true) :
    Calls Try.prog 3 #[pieceV o g i A n c, .slice A2 n2 c2] w fun e w' => e = .returned (.bool true) ∧ Below w.heap.size w w' := by
  have h0 := below_new4 w (.cells #[.int .i64 o, .int .i64 g, .int .i64 i, .slice A n c] 24)
  have ha := awake17 (w.alloc (.cells #[.int .i64 o, .int .i64 g, .int .i64 i, .slice A n c] 24))
  have HT := Lib.hid (Four.new w (.int .i64 o) (.int .i64 g) (.int .i64 i) (.slice A n c) 24)
  have HB0 := Lib.hid h0
  have d1 : decide ((200 : Int) < (n : Int)) = false := decide_eq_false (by omega)
  have d2 : decide ((300 : Int) < (n2 : Int)) = false := decide_eq_false (by omega)
  have HS2 := Lib.hid hs2
  have HS := Lib.hid hs
  have hrt : (Cp.mk o g i l).right = true := by
    unfold pieceB at hp
    unfold Cp.right
    rw [← hs.1] at hp
    exact hp
  have HRT := Lib.hid hrt
  have HN : Hid (n ≤ 64) := Lib.hid (pieceB_own hp).2.2.2.2
  have kp : ∀ W, Below w.heap.size w W → _ := fun W h => putPiece_yes o g i A n c l w.heap.size W hp (hs.below h) h.size
  have kx : ∀ W, Below w.heap.size w W → _ := fun W h => piece17_any o g i A n c l w.heap.size W hrt (hs.below h) h.size
  have kh : ∀ W A9 c9, Bs W W.heap.size A9 (n + 7) (Cp.bytes ⟨o, g, i, l⟩) → n + 7 ≤ c9 → Calls Try.prog 6 #[.slice A9 (n + 7) c9] W (GotPiece ⟨o, g, i, l⟩ (.int .i64 0) W) := fun W A9 c9 h hc => by
    have h9 := cget_any h (Nat.le_refl _) hc (by have := HN.out; omega)
    rw [Cp.get_bytes hrt] at h9
    exact h9
  have kr := fun W => rightPiece_any o g i A n c W
  change ∀ W, Calls _ _ _ _ (fun e w' => e = .returned (.bool (pieceB o g i n)) ∧ _) at kr
  rw [hp] at kr
  have kg : ∀ W, Below w.heap.size w W → Calls Try.prog 6 #[.slice A2 n2 c2] W (GotPiece ((Cp.get l2).getD Cp.zero) (.int .i64 (if (Cp.get l2).isSome then 0 else 3)) W) := fun W h => cget_any (hs2.below h) h.size hc2 (by omega)
  have kd : ∀ W, Below w.heap.size w W → Calls Try.prog 7 #[.slice A2 n2 c2] W (GotPiece ((Cp.get l2).getD Cp.zero) (.bool (Cp.get l2).isSome) W) := fun W h => rget_any (hs2.below h) h.size hc2 (by omega)
  obtain ⟨q, hq⟩ : ∃ q, (Cp.get l2).isSome = q := ⟨_, rfl⟩
  have HQB : Hid (((Cp.get l2).getD Cp.zero).body.length ≤ 300) := Lib.hid (by
    cases hg : Cp.get l2 with
    | none => exact Nat.zero_le _
    | some y =>
      obtain ⟨-, -, hr⟩ := Cp.get_right hg
      obtain ⟨-, -, -, -, h⟩ := Cp.right_own hr
      show y.body.length ≤ 300
      omega)
  rw [hq] at kg kd
  generalize (Cp.get l2).getD Cp.zero = y at *
  obtain ⟨yo, yg, yi, yb⟩ := y
  have KP := Lib.hid kp
  have KX := Lib.hid kx
  have KH := Lib.hid kh
  have KR := Lib.hid kr
  clear h0 hs hs2 hrt kx kh h1 h2 hp hq kp kr
  cases q
  case' false =>
    change ∀ W, Below w.heap.size w W → Calls Try.prog 6 #[.slice A2 n2 c2] W (GotPiece ⟨yo, yg, yi, yb⟩ (.int .i64 3) W) at kg
    have KG := Lib.hid kg
    have KD := Lib.hid kd
    clear kg kd
  case' true =>
    change ∀ W, Below w.heap.size w W → Calls Try.prog 6 #[.slice A2 n2 c2] W (GotPiece ⟨yo, yg, yi, yb⟩ (.int .i64 0) W) at kg
    have KG := Lib.hid kg
    have KD := Lib.hid kd
    clear kg kd
  all_goals
    go_enter Try.func3, Try.ntmps3
    go_wp2_with (first
      | (go_at_call 4; (with_reducible refine ha.mono ?_); rintro e w1 ⟨rfl, hb1⟩; have FX1 := Lib.hid (HT.out.below hb1); obtain ⟨-, c0, c1, c2, c3, -⟩ := FX1.out; have HB1 := Lib.hid (HB0.out.trans (hb1.mono HB0.out.size)); clear hb1 ha)
      | (go_at_call 5; (with_reducible refine (KP.out w1 HB1.out).mono ?_); rintro e w2 ⟨Ao, co, rfl, hso, hco, hb2⟩; have HSO := Lib.hid (And.intro hso hco); have FX2 := Lib.hid (FX1.out.below hb2); have HB2 := Lib.hid (HB1.out.trans (hb2.mono HB1.out.size)); have HD2 := Lib.hid (Below.refl w2.heap.size w2); clear hb2 hso hco c0 c1 c2 c3)
      | (go_at_call 6; (with_reducible refine (KG.out w2 HB2.out).mono ?_); rintro e w3 ⟨Ay, ky, rfl, hs3, hk3, hb3⟩; (try dsimp only at hs3); have HS3 := Lib.hid (hs3.alloc (Nat.le_refl _) (.cells #[.int .i64 yo, .int .i64 yg, .int .i64 yi, .slice Ay yb.length ky] 24)); have FY3 := Lib.hid (Four.new w3 (.int .i64 yo) (.int .i64 yg) (.int .i64 yi) (.slice Ay yb.length ky) 24); have FX3 := Lib.hid ((FX2.out.below hb3).alloc (.cells #[.int .i64 yo, .int .i64 yg, .int .i64 yi, .slice Ay yb.length ky] 24)); have HB3 := Lib.hid ((HB2.out.trans (hb3.mono HB2.out.size)).alloc (HB2.out.trans (hb3.mono HB2.out.size)).size (.cells #[.int .i64 yo, .int .i64 yg, .int .i64 yi, .slice Ay yb.length ky] 24)); have HD3 := Lib.hid ((HD2.out.trans (hb3.mono HD2.out.size)).alloc (HD2.out.trans (hb3.mono HD2.out.size)).size (.cells #[.int .i64 yo, .int .i64 yg, .int .i64 yi, .slice Ay yb.length ky] 24)); clear hs3 hk3 hb3)
      | (go_at_call 7; (with_reducible refine (KD.out _ HB3.out).mono ?_); rintro e w4 ⟨Az, kz, rfl, hs4, hk4, hb4⟩; (try dsimp only at hs4); have HS4 := Lib.hid (hs4.alloc (Nat.le_refl _) (.cells #[.int .i64 yo, .int .i64 yg, .int .i64 yi, .slice Az yb.length kz] 24)); have HY4 := Lib.hid (((HS3.out.mono (by simp)).below hb4).alloc hb4.size (.cells #[.int .i64 yo, .int .i64 yg, .int .i64 yi, .slice Az yb.length kz] 24)); have FY4 := Lib.hid ((FY3.out.below hb4).alloc (.cells #[.int .i64 yo, .int .i64 yg, .int .i64 yi, .slice Az yb.length kz] 24)); have FX4 := Lib.hid ((FX3.out.below hb4).alloc (.cells #[.int .i64 yo, .int .i64 yg, .int .i64 yi, .slice Az yb.length kz] 24)); have HB4 := Lib.hid ((HB3.out.trans (hb4.mono HB3.out.size)).alloc (HB3.out.trans (hb4.mono HB3.out.size)).size (.cells #[.int .i64 yo, .int .i64 yg, .int .i64 yi, .slice Az yb.length kz] 24)); obtain ⟨-, c0, c1, c2, c3, -⟩ := FY4.out; have cs := same17_any yo yg yi yo yg yi Ay Az yb.length ky yb.length kz yb yb (w4.alloc (.cells #[.int .i64 yo, .int .i64 yg, .int .i64 yi, .slice Az yb.length kz] 24)).heap.size _ (HY4.out.mono (by have := hb4.size; simp at this ⊢; omega)) (HS4.out.mono (by simp)) (Nat.le_refl _) (by have := HQB.out; (try dsimp only at this); omega); simp only [beq_self_eq_true, decide_true, Bool.and_self] at cs; have HD4 := Lib.hid ((HD3.out.trans (hb4.mono HD3.out.size)).alloc (HD3.out.trans (hb4.mono HD3.out.size)).size (.cells #[.int .i64 yo, .int .i64 yg, .int .i64 yi, .slice Az yb.length kz] 24)); clear hs4 hk4 hb4)
      | (go_at_call 8; (with_reducible refine cs.mono ?_); rintro e w5 ⟨rfl, hb5⟩; have FX5 := Lib.hid (FX4.out.below hb5); clear c0 c1 c2 c3; obtain ⟨-, c0, c1, c2, c3, -⟩ := FX5.out; have HB5 := Lib.hid (HB4.out.trans (hb5.mono HB4.out.size)); have HD5 := Lib.hid (HD4.out.trans (hb5.mono HD4.out.size)); clear hb5 cs)
      | (go_at_call 9; (with_reducible refine (KR.out w5).mono ?_); rintro e w6 ⟨rfl, hb6⟩; have FX6 := Lib.hid (FX5.out.below hb6); have HB6 := Lib.hid (HB5.out.trans (hb6.mono HB5.out.size)); have HD6 := Lib.hid (HD5.out.trans (hb6.mono HD5.out.size)); clear hb6 c0 c1 c2 c3)
      | (go_at_call 6; (with_reducible refine (KH.out w6 Ao co ((HSO.out.1.below HD6.out).mono HD6.out.size) HSO.out.2).mono ?_); rintro e w7 ⟨Aw, kw, rfl, hs7, hk7, hb7⟩; (try dsimp only at hs7); have HS7 := Lib.hid (hs7.alloc (Nat.le_refl _) (.cells #[.int .i64 o, .int .i64 g, .int .i64 i, .slice Aw l.length kw] 24)); have FW7 := Lib.hid (Four.new w7 (.int .i64 o) (.int .i64 g) (.int .i64 i) (.slice Aw l.length kw) 24); have FX7 := Lib.hid ((FX6.out.below hb7).alloc (.cells #[.int .i64 o, .int .i64 g, .int .i64 i, .slice Aw l.length kw] 24)); obtain ⟨-, c0, c1, c2, c3, -⟩ := FX7.out; have HB7 := Lib.hid ((HB6.out.trans (hb7.mono HB6.out.size)).alloc (HB6.out.trans (hb7.mono HB6.out.size)).size (.cells #[.int .i64 o, .int .i64 g, .int .i64 i, .slice Aw l.length kw] 24)); have HD7 := Lib.hid ((HD6.out.trans (hb7.mono HD6.out.size)).alloc (HD6.out.trans (hb7.mono HD6.out.size)).size (.cells #[.int .i64 o, .int .i64 g, .int .i64 i, .slice Aw l.length kw] 24)); clear hs7 hk7 hb7)
      | (go_at_call 11; (with_reducible refine (KX.out _ HB7.out).mono ?_); rintro e w8 ⟨A8, k8, rfl, hs8, hk8, hb8⟩; have HS8 := Lib.hid hs8; have HW8 := Lib.hid ((HS7.out.mono (by simp)).below hb8); have FW8 := Lib.hid (FW7.out.below hb8); have FX8 := Lib.hid (FX7.out.below hb8); clear c0 c1 c2 c3; obtain ⟨-, c0, c1, c2, c3, -⟩ := FX8.out; obtain ⟨-, e0, e1, e2, e3, -⟩ := FW8.out; have HB8 := Lib.hid (HB7.out.trans (hb8.mono HB7.out.size)); have HD8 := Lib.hid (HD7.out.trans (hb8.mono HD7.out.size)); have cb := bytes_any Ao A8 (n + 7) co _ k8 w8.heap.size _ _ w8 ((HSO.out.1.below HD8.out).mono HD8.out.size) HS8.out (by have := HN.out; omega); rw [decide_eq_true rfl] at cb; clear hs8 hk8 hb8)
      | (go_at_call 10; (refine cb.mono ?_); rintro e w9 ⟨rfl, m9, rfl⟩; have cs2 := same17_any o g i o g i Aw A l.length kw n c l l w8.heap.size (w8.drewN m9) ((HW8.out.mono (by have := FW8.out.1; simp; omega)).drewN m9) ((HS.out.below HB8.out).mono HB8.out.size) (Nat.le_refl _) (by have := HN.out; have := HS.out.1; omega); simp only [beq_self_eq_true, decide_true, Bool.and_self] at cs2; clear cb)
      | (go_at_call 8; (with_reducible refine cs2.mono ?_); rintro e w10 ⟨rfl, hb10⟩; have HB10 := Lib.hid ((below_drewN HB8.out m9).trans (hb10.mono HB8.out.size)); clear hb10 cs2))
    go_ret
    exact ⟨rfl, HB10.out⟩
/-- the walk -/
theorem codecPieces_walk (o g i : Int) (A : Option Addr) (n c : Nat) (l : List UInt8) (A2 : Option Addr) (n2 c2 : Nat) (l2 : List UInt8) (w : World) (hs : Bs w w.heap.size A n l) (_hc : n ≤ c) (hs2 : Bs w w.heap.size A2 n2 l2) (hc2 : n2 ≤ c2) :
    Calls Try.prog 3 #[pieceV o g i A n c, .slice A2 n2 c2] w fun e w' => e = .returned (.bool true) ∧ Below w.heap.size w w' := by
  by_cases h : 200 < n ∨ 300 < n2
  · exact codecPieces_long h
  · cases hp : pieceB o g i n
    · exact codecPieces_no hs2 hc2 (by omega) (by omega) hp
    · exact codecPieces_yes hs hs2 hc2 (by omega) (by omega) hp
end
end Go.Proofs.YtidjajdgphkbbaaRR
