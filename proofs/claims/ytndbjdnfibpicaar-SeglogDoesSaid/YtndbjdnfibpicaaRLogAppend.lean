/-
  The program's log: Append, Move.
-/
import Derived.Test.YtndbjdnfibpicaaRLogGo
namespace Go.Proofs.YtndbjdnfibpicaaR
open Go.ChangeShapes Go.WideShapes Go.ChangeAt Go.RowKit Fl Lo
set_option maxRecDepth 100000

abbrev goF (b1 b2 : Nat) : Value := .func (.func 56) #[] #[.pointer (some ⟨b1, 0, none⟩), .pointer (some ⟨b2, 0, none⟩)]
theorem putting_any (lb : Nat) (need : Int) (w : World) : Calls Try.prog 42 #[.pointer (some ⟨lb, 0, none⟩), .int .i64 need] w fun e w' =>
    e = .returned (goF w.heap.size (w.heap.size + 1)) ∧ (w.alloc (.cells #[.pointer (some ⟨lb, 0, none⟩)] 32)).alloc (.cells #[.int .i64 need] 3) = w' := by
  have hmf : ∀ (fn : Fn) (first cap : Array Value) (w : World), (Instr.makeFunc fn first cap).run Try.prog w = .ok (.func fn first cap) w := fun _ _ _ _ => rfl
  go_enter Try.func42, Try.ntmps42
  go_wp2
  go_ret
  exact ⟨rfl, rfl⟩
section
variable {S P B lb db mb n c need : Nat} {w : World} {v : Nat → Nat} {g : Lg} {kind : UInt8} {A : Option Addr} {l : List UInt8}
/-- what putting leaves is what the closure wants -/
theorem caps_born {W w2 : World} {v : Nat → Nat} (hf : Fr W v) (lb need : Nat) (he : (W.alloc (.cells #[.pointer (some ⟨lb, 0, none⟩)] 32)).alloc (.cells #[.int .i64 (need : Int)] 3) = w2) :
    Caps w2 v W.heap.size (W.heap.size + 1) lb need ∧ Below W.heap.size W w2 := by
  subst he
  refine ⟨⟨?_, ?_, hf _ (Nat.le_refl _), hf _ (Nat.le_succ _)⟩, ((Below.refl _ W).alloc (Nat.le_refl _) _).alloc (by simp) _⟩
  · have h1 : (W.alloc (.cells #[.pointer (some ⟨lb, 0, none⟩)] 32)).cell? ⟨W.heap.size, 0, none⟩ = some (.pointer (some ⟨lb, 0, none⟩)) := by simp
    exact ((below_new4 _ _).cell (p := ⟨W.heap.size, 0, none⟩) (by simp)).trans h1
  · have e : (W.alloc (.cells #[.pointer (some ⟨lb, 0, none⟩)] 32)).heap.size = W.heap.size + 1 := by simp
    rw [← e]
    simp
theorem PutTo.at0 {K : Nat → Prop} {e : Ending} {w' : World} (h : PutTo K S P B lb db mb kind l need g w v e w') : ∃ a b x, a = (putAt P B kind l need g).1 ∧ b = (putAt P B kind l need g).2 ∧ x = perr P B kind l need g ∧ e = .returned (.tuple #[.agg #[.int .i64 a, .int .i64 b], .int .i64 x]) ∧ ∃ v', Plg w' v' S P B lb db mb (putG P B kind l need g) ∧ Ms K w v w' v' :=
  ⟨_, _, _, rfl, rfl, rfl, h⟩
set_option maxHeartbeats 4000000 in
theorem lAppend_any (h : Plg w v S P B lb db mb g) (hd : Dt w v (.slice A n c) l) (hn : n ≤ 4096) (hx1 : 1 ≤ g.next) (hx : g.next < 900000) (hM : g.M.length ≤ 80000) :
    Calls Try.prog 17 #[.pointer (some ⟨lb, 0, none⟩), .int .u8 (kind.toNat : Int), .slice A n c] w (PutTo Kp S P B lb db mb kind l 2 g w v) := by
  obtain ⟨hp1, hst1⟩ := h.box (.cells #[.int .i64 0, .int .i64 0] 51) 7
  have HD1 := Lib.hid ((Ms.one (K := fun k => k = 7) rfl hst1).dt hd (by omega))
  have HP1 := Lib.hid hp1
  have HST1 := Lib.hid hst1
  have HAB1 := Lib.hid (Ab.new w 0 0)
  have HVN : Hid (paint v w.heap.size 7 w.heap.size = 7) := Lib.hid (paint_same _ _ _)
  have cp := putting_any lb 2 (w.alloc (.cells #[.int .i64 0, .int .i64 0] 51))
  clear h hd hp1 hst1
  go_enter Try.func17, Try.ntmps17
  go_wp2_with (first
    | (go_at_call 42; (with_reducible refine cp.mono ?_); rintro e w2 ⟨rfl, hw2⟩; obtain ⟨hc2, hb2⟩ := caps_born (need := 2) HP1.out.fr lb hw2; rw [size_alloc] at hc2; have HB2 := Lib.hid hb2; have HP2 := Lib.hid (HP1.out.below hb2); have cg := putGo_any (kind := kind) HP2.out hc2 (HD1.out.stp (k := 9) (Stp.below hb2 HP1.out.fr) (by omega)) hn (by omega) hx1 hx hM (by omega); clear hw2 cp hc2 hb2)
    | (go_at_call 56; (with_reducible refine cg.mono ?_); rintro e w3 hto; obtain ⟨a, b, x, ha, hb, hx9, rfl, v3, hP3, hM3⟩ := PutTo.at0 hto; have HA := Lib.hid ha; have HB := Lib.hid hb; have HX := Lib.hid hx9; have HP3 := Lib.hid hP3; have HM3 := Lib.hid hM3; have hab := (HAB1.out.below HB2.out).ms hM3 (by rw [HVN.out]; unfold K135; omega); have x0 := hab.c0; have x1 := hab.c1; have y0 := hab.f0; have y1 := hab.f1; have HAB := Lib.hid hab; clear cg hto ha hb hx9 hP3 hM3 hab))
  have hT := HAB.out.put a b
  have z0 := hT.c0
  have z1 := hT.c1
  have hvn : v3 w.heap.size = 7 := by rw [HM3.out.same (HAB1.out.below HB2.out).lt]; exact HVN.out
  have sL := box_last (k := 7) (x := a) (y := b) HAB.out HP3.out.fr hvn
  exact bodyPost_ret (v := .tuple #[.agg #[.int .i64 a, .int .i64 b], .int .i64 x]) (by simp [results, Try.results17, go_sem, z0, z1]) rfl
    ⟨by rw [HA.out, HB.out, HX.out], _, HP3.out.ms (K := fun k => k = 7) (Ms.one (k := 7) rfl sL) (by omega) (by omega) (by omega), (((Ms.one (k := 7) (by unfold Kp; omega) HST1.out).step (k := 7) (by unfold Kp; omega) (Stp.below HB2.out HP1.out.fr)).trans (HM3.out.mono k135_p)).step (k := 7) (by unfold Kp; omega) sL⟩
set_option maxHeartbeats 4000000 in
theorem lMove_any (h : Plg w v S P B lb db mb g) (hd : Dt w v (.slice A n c) l) (hn : n ≤ 4096) (hx1 : 1 ≤ g.next) (hx : g.next < 900000) (hM : g.M.length ≤ 80000) :
    Calls Try.prog 25 #[.pointer (some ⟨lb, 0, none⟩), .int .u8 (kind.toNat : Int), .slice A n c] w (PutTo Kp S P B lb db mb kind l 1 g w v) := by
  obtain ⟨hp1, hst1⟩ := h.box (.cells #[.int .i64 0, .int .i64 0] 51) 7
  have HD1 := Lib.hid ((Ms.one (K := fun k => k = 7) rfl hst1).dt hd (by omega))
  have HP1 := Lib.hid hp1
  have HST1 := Lib.hid hst1
  have HAB1 := Lib.hid (Ab.new w 0 0)
  have HVN : Hid (paint v w.heap.size 7 w.heap.size = 7) := Lib.hid (paint_same _ _ _)
  have cp := putting_any lb 1 (w.alloc (.cells #[.int .i64 0, .int .i64 0] 51))
  clear h hd hp1 hst1
  go_enter Try.func25, Try.ntmps25
  go_wp2_with (first
    | (go_at_call 42; (with_reducible refine cp.mono ?_); rintro e w2 ⟨rfl, hw2⟩; obtain ⟨hc2, hb2⟩ := caps_born (need := 1) HP1.out.fr lb hw2; rw [size_alloc] at hc2; have HB2 := Lib.hid hb2; have HP2 := Lib.hid (HP1.out.below hb2); have cg := putGo_any (kind := kind) HP2.out hc2 (HD1.out.stp (k := 9) (Stp.below hb2 HP1.out.fr) (by omega)) hn (by omega) hx1 hx hM (by omega); clear hw2 cp hc2 hb2)
    | (go_at_call 56; (with_reducible refine cg.mono ?_); rintro e w3 hto; obtain ⟨a, b, x, ha, hb, hx9, rfl, v3, hP3, hM3⟩ := PutTo.at0 hto; have HA := Lib.hid ha; have HB := Lib.hid hb; have HX := Lib.hid hx9; have HP3 := Lib.hid hP3; have HM3 := Lib.hid hM3; have hab := (HAB1.out.below HB2.out).ms hM3 (by rw [HVN.out]; unfold K135; omega); have x0 := hab.c0; have x1 := hab.c1; have y0 := hab.f0; have y1 := hab.f1; have HAB := Lib.hid hab; clear cg hto ha hb hx9 hP3 hM3 hab))
  have hT := HAB.out.put a b
  have z0 := hT.c0
  have z1 := hT.c1
  have hvn : v3 w.heap.size = 7 := by rw [HM3.out.same (HAB1.out.below HB2.out).lt]; exact HVN.out
  have sL := box_last (k := 7) (x := a) (y := b) HAB.out HP3.out.fr hvn
  exact bodyPost_ret (v := .tuple #[.agg #[.int .i64 a, .int .i64 b], .int .i64 x]) (by simp [results, Try.results25, go_sem, z0, z1]) rfl
    ⟨by rw [HA.out, HB.out, HX.out], _, HP3.out.ms (K := fun k => k = 7) (Ms.one (k := 7) rfl sL) (by omega) (by omega) (by omega), (((Ms.one (k := 7) (by unfold Kp; omega) HST1.out).step (k := 7) (by unfold Kp; omega) (Stp.below HB2.out HP1.out.fr)).trans (HM3.out.mono k135_p)).step (k := 7) (by unfold Kp; omega) sL⟩
end
end Go.Proofs.YtndbjdnfibpicaaR
