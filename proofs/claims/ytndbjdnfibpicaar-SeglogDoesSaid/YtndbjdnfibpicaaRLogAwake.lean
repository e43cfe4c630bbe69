/-
  The law's awake: the chapter's example.
-/
import Derived.Test.YtndbjdnfibpicaaRLogAppend
import Derived.Test.YtndbjdnfibpicaaRLogNew
namespace Go.Proofs.YtndbjdnfibpicaaR
open Go.ChangeShapes Go.WideShapes Go.ChangeAt Go.RowKit Fl Lo
set_option maxRecDepth 100000
set_option linter.unusedVariables false

theorem shp_ex : Shp 4 8 16 := ⟨by omega, by omega, by omega, by omega, by omega, by omega⟩
def gEx : Lg := putG 8 16 2 [7] 2 (g0 4)
theorem ex_err : perr 8 16 2 [7] 2 (g0 4) = 0 := by decide
theorem ex_at : putAt 8 16 2 [7] 2 (g0 4) = (0, 1) := by
  unfold putAt
  rw [if_pos ex_err]
  rfl
theorem ex_st : stI 4 gEx 0 = 1 := by
  unfold gEx putG
  rw [if_pos ex_err]
  rfl
theorem one_byte (w : World) (v : Nat → Nat) (hf : Fr w v) : Dt (w.alloc (.cells #[.int .u8 7] 5)) v (.slice (some ⟨w.heap.size, 0, none⟩) 1 1) [7] := by
  have hr : Row 5 (w.alloc (.cells #[.int .u8 7] 5)) w.heap.size [7] := Row.new w 5 [7]
  exact ⟨some ⟨w.heap.size, 0, none⟩, 1, rfl, Nat.le_refl _, hr.bs hr.lt, fun e => (nomatch e), fun _ a ha => by injection ha with ha; subst ha; exact hf _ (Nat.le_refl _)⟩
set_option maxHeartbeats 4000000 in
theorem lawake_any (w : World) : Calls Try.prog 4 #[] w fun e w' => e = .returned (.bool true) ∧ Below w.heap.size w w' := by
  have cn : Calls Try.prog 7 #[.agg #[.int .i64 4, .int .i64 8, .int .i64 16]] w (NewTo 1 4 8 16 w (fun _ => 0)) := new_yes (k := 1) shp_ex (fun _ _ => rfl)
  go_enter Try.func4, Try.ntmps4
  go_wp2_with (first
    | (go_at_call 7; (with_reducible refine cn.mono ?_); rintro e w1 ⟨db, mb, v1, rfl, h1, h2, hD1, hS1⟩; have HD1 := Lib.hid hD1; have HS1 := Lib.hid hS1; have cl := lnew_any hD1 (by omega); clear cn hD1 hS1 h1 h2)
    | (go_at_call 8; (with_reducible refine cl.mono ?_); rintro e w2 ⟨lb, v2, rfl, hP2, hM2⟩; have hbx := below_new4 w2 (.cells #[.int .u8 7] 5); have HP2 := Lib.hid hP2; have HPX := Lib.hid (hP2.below hbx); have HBX := Lib.hid hbx; have HM2 := Lib.hid hM2; have hdt := one_byte w2 v2 hP2.fr; have ca : Calls Try.prog 17 #[.pointer (some ⟨lb, 0, none⟩), .int .u8 2, .slice (some ⟨w2.heap.size, 0, none⟩) 1 1] (w2.alloc (.cells #[.int .u8 7] 5)) (PutTo Kp 4 8 16 lb db mb 2 [7] 2 (g0 4) (w2.alloc (.cells #[.int .u8 7] 5)) v2) := lAppend_any (kind := 2) (hP2.below hbx) hdt (by omega) (by show 1 ≤ 1; omega) (by show 1 < 900000; omega) (by show ([] : List Pg).length ≤ 80000; simp); clear cl hP2 hM2 hbx hdt)
    | (go_at_call 17; (with_reducible refine ca.mono ?_); rintro e w3 hto; obtain ⟨a, b, x, ha, hb, hx9, rfl, v3, hP3, hM3⟩ := PutTo.at0 hto; rw [ex_at] at ha hb; rw [ex_err] at hx9; subst ha hb hx9; have hbo := below_new4 w3 (.cells #[.int .i64 0, .int .i64 1] 51); have hab := Ab.new w3 0 1; have a0 := hab.c0; have a1 := hab.c1; have HP3 := Lib.hid (hP3.below hbo); have HM3 := Lib.hid hM3; have HBO := Lib.hid hbo; have cs : Calls Try.prog 13 #[.pointer (some ⟨lb, 0, none⟩), .int .i64 0] (w3.alloc (.cells #[.int .i64 0, .int .i64 1] 51)) _ := state_any HP3.out 0; rw [show stI 4 (putG 8 16 2 [7] 2 (g0 4)) 0 = 1 from ex_st] at cs; clear ca hto hP3 hM3 hbo hab)
    | (go_at_call 13; (with_reducible refine cs.mono ?_); rintro e w4 ⟨rfl, hb4⟩; have HB4 := Lib.hid hb4; clear cs hb4))
  go_ret
  have m1 : Ms Kp w (fun _ => 0) w2 v2 := (Ms.one (k := 1) (by unfold Kp; omega) (HS1.out 1)).trans HM2.out
  have m2 : Ms Kp w (fun _ => 0) (w2.alloc (.cells #[.int .u8 7] 5)) v2 := m1.step (k := 7) (by unfold Kp; omega) (Stp.below HBX.out HP2.out.fr)
  have m3 := m2.trans HM3.out
  have m4 := m3.step (k := 7) (by unfold Kp; omega) (Stp.below (HBO.out.trans (HB4.out.mono HBO.out.size)) (HM3.out.fresh HPX.out.fr))
  exact ⟨rfl, m4.belowB (Nat.le_refl _) (fun _ _ => rfl) (by unfold Kp; omega)⟩
end Go.Proofs.YtndbjdnfibpicaaR
