/-
  The program's log: the closure that Append and Move have in common.
-/
import Derived.Test.YtndbjdnfibpicaaRLogPut
namespace Go.Proofs.YtndbjdnfibpicaaR
open Go.ChangeShapes Go.WideShapes Go.ChangeAt Go.RowKit Fl Lo
set_option maxRecDepth 100000
set_option linter.unusedVariables false

/-- bytes that read as a list -/
theorem dt_bs9 {w : World} {v : Nat → Nat} {A : Option Addr} {n c : Nat} {l : List UInt8} (h : Dt w v (.slice A n c) l) : Bs w w.heap.size A n l := by
  obtain ⟨A', c', e, -, hb, -⟩ := h
  injection e with e1 e2 _
  subst e1 e2
  exact hb
/-- what a put comes to -/
def PutTo (K : Nat → Prop) (S P B lb db mb : Nat) (kind : UInt8) (l : List UInt8) (need : Nat) (g : Lg) (w : World) (v : Nat → Nat) (e : Ending) (w' : World) : Prop :=
  e = .returned (.tuple #[.agg #[.int .i64 (putAt P B kind l need g).1, .int .i64 (putAt P B kind l need g).2], .int .i64 (perr P B kind l need g)]) ∧ ∃ v', Plg w' v' S P B lb db mb (putG P B kind l need g) ∧ Ms K w v w' v'
/-- what the closure holds -/
structure Caps (w : World) (v : Nat → Nat) (b1 b2 lb need : Nat) : Prop where
  c1 : w.cell? ⟨b1, 0, none⟩ = some (.pointer (some ⟨lb, 0, none⟩))
  c2 : w.cell? ⟨b2, 0, none⟩ = some (.int .i64 need)
  v1 : v b1 = 0
  v2 : v b2 = 0
section
variable {S P B lb db mb b1 b2 need n c k : Nat} {w w' : World} {v v' : Nat → Nat} {g : Lg} {kind : UInt8} {A : Option Addr} {l : List UInt8} {K : Nat → Prop}
theorem Caps.lt1 (h : Caps w v b1 b2 lb need) : b1 < w.heap.size := World.block_lt_of_cell? w _ h.c1
theorem Caps.lt2 (h : Caps w v b1 b2 lb need) : b2 < w.heap.size := World.block_lt_of_cell? w _ h.c2
theorem Caps.ms (h : Caps w v b1 b2 lb need) (hm : Ms K w v w' v') (h0 : ¬ K 0) : Caps w' v' b1 b2 lb need :=
  ⟨hm.cell h.c1 (by show ¬ K (v b1); rw [h.v1]; exact h0), hm.cell h.c2 (by show ¬ K (v b2); rw [h.v2]; exact h0), by rw [hm.same h.lt1]; exact h.v1, by rw [hm.same h.lt2]; exact h.v2⟩
theorem Caps.below (h : Caps w v b1 b2 lb need) (hb : Below w.heap.size w w') : Caps w' v b1 b2 lb need :=
  ⟨(hb.cell (p := ⟨b1, 0, none⟩) h.lt1).trans h.c1, (hb.cell (p := ⟨b2, 0, none⟩) h.lt2).trans h.c2, h.v1, h.v2⟩
theorem Ab.ms {q : Nat} {a b : Int} (h : Ab w q a b) (hm : Ms K w v w' v') (hq : ¬ K (v q)) : Ab w' q a b := h.kept (hm.block h.lt hq)
theorem Ab.below {q : Nat} {a b : Int} (h : Ab w q a b) (hb : Below w.heap.size w w') : Ab w' q a b := h.kept (hb.block q h.lt)
/-- the box's last word -/
theorem box_last {q : Nat} {x y : Int} (h : Ab w q 0 0) (hf : Fr w v) (hv : v q = k) : Stp k w ((w.setCell ⟨q, 0, none⟩ (.int .i64 x)).setCell ⟨q, 1, none⟩ (.int .i64 y)) v v := by
  have sB : Stp k w (w.setCell ⟨q, 0, none⟩ (.int .i64 x)) v v := Stp.setCell (a := ⟨q, 0, none⟩) hv _ hf
  exact sB.trans (Stp.setCell (a := ⟨q, 1, none⟩) hv _ sB.fresh)
theorem opened_length (B : Nat) (g : Lg) : (opened B g).M.length = g.M.length + 1 := by
  show (app (ix 0 g.st : Int) 0 B (Fm.frame 1 g.next []) 1 g.M).length = _
  rw [app_length]
theorem perr_of {P B : Nat} {g : Lg} {kind : UInt8} {l : List UInt8} {need : Nat} (hr : refI P B kind l.length = 0) : perr P B kind l need g = if room P B l.length g then 0 else if cnt 0 g.st < need then 5 else 0 := by
  unfold refI at hr
  unfold perr
  by_cases h1 : kind = 1
  · rw [if_pos h1] at hr; omega
  · rw [if_neg h1] at hr
    by_cases h2 : P < Fm.pages l.length B + 1
    · rw [if_pos h2] at hr; omega
    · rw [if_neg h1, if_neg h2]
set_option maxHeartbeats 2000000 in
theorem putGo_bad (h : Plg w v S P B lb db mb g) (hcap : Caps w v b1 b2 lb need) (hd : Dt w v (.slice A n c) l) (hn : n ≤ 4096) (hneed : need ≤ 1000) (hx1 : 1 ≤ g.next) (hx : g.next < 900000) (hM : g.M.length ≤ 80000) (hr : refI P B kind l.length ≠ 0) :
    Calls Try.prog 56 #[.int .u8 (kind.toNat : Int), .slice A n c, .pointer (some ⟨b1, 0, none⟩), .pointer (some ⟨b2, 0, none⟩)] w (PutTo K135 S P B lb db mb kind l need g w v) := by
  have hln := (dt_bs9 hd).len
  have hb0 := below_new4 w (.cells #[.int .i64 0, .int .i64 0] 51)
  obtain ⟨hp1, hst1⟩ := h.box (.cells #[.int .i64 0, .int .i64 0] 51) 5
  have hcap1 := hcap.below hb0
  have hv1 : paint v w.heap.size 5 b1 = 0 := by rw [paint_other (by have := hcap.lt1; omega)]; exact hcap.v1
  have hv2 : paint v w.heap.size 5 b2 = 0 := by rw [paint_other (by have := hcap.lt2; omega)]; exact hcap.v2
  have HC1 : Hid (Caps (w.alloc (.cells #[.int .i64 0, .int .i64 0] 51)) (paint v w.heap.size 5) b1 b2 lb need) := Lib.hid ⟨hcap1.c1, hcap1.c2, hv1, hv2⟩
  have hms1 : Ms K135 w v (w.alloc (.cells #[.int .i64 0, .int .i64 0] 51)) (paint v w.heap.size 5) := Ms.one (k := 5) (by unfold K135; omega) hst1
  have HMS1 := Lib.hid hms1
  have HD1 : Hid (Dt (w.alloc (.cells #[.int .i64 0, .int .i64 0] 51)) (paint v w.heap.size 5) (.slice A n c) l) := Lib.hid (hms1.dt hd (by unfold K135; omega))
  have HAB1 := Lib.hid (Ab.new w 0 0)
  have HP1 := Lib.hid hp1
  have HVN : Hid (paint v w.heap.size 5 w.heap.size = 5) := Lib.hid (paint_same _ _ _)
  have c1 := hcap1.c1
  have cr := refusal_any hp1 kind A n c hn
  have hln9 : refI P B kind n = refI P B kind l.length := by rw [hln]
  have hpn : Fm.pages n B = Fm.pages l.length B := by rw [hln]
  rw [hln9] at cr
  have he : perr P B kind l need g = refI P B kind l.length := by
    unfold refI at hr ⊢
    unfold perr
    split
    · rfl
    · rename_i h1
      rw [if_neg h1] at hr
      split
      · rfl
      · rename_i h2
        rw [if_neg h2] at hr
        exact absurd rfl hr
  have HG : Hid (putG P B kind l need g = g ∧ putAt P B kind l need g = (0, 0)) := Lib.hid (by unfold putG putAt; rw [he, if_neg hr, if_neg hr]; exact ⟨rfl, rfl⟩)
  obtain ⟨x, hxe⟩ : ∃ x, x = refI P B kind l.length := ⟨_, rfl⟩
  rw [← hxe] at cr he hr
  have e0 : (x == 0) = false := by simpa using hr
  have HE := Lib.hid he
  clear hln9 h hcap hd hp1 hst1 hcap1 hv1 hv2 hms1
  clear hxe he hr hln
  go_enter Try.func56, Try.ntmps56
  go_wp2_with (go_at_call 57; (with_reducible refine cr.mono ?_); rintro e w2 ⟨rfl, hb2⟩; have HB2 := Lib.hid hb2; have hab := HAB1.out.below hb2; have x0 := hab.c0; have x1 := hab.c1; have y0 := hab.f0; have y1 := hab.f1; have HAB := Lib.hid hab; clear hb2 cr hab)
  have hT := HAB.out.put 0 0
  have z0 := hT.c0
  have z1 := hT.c1
  have hP2 := HP1.out.below HB2.out
  have sL := box_last (k := 5) (x := 0) (y := 0) HAB.out hP2.fr HVN.out
  exact bodyPost_ret (v := .tuple #[.agg #[.int .i64 0, .int .i64 0], .int .i64 x]) (by simp [results, Try.results56, go_sem, z0, z1]) rfl
    ⟨by rw [HG.out.2, HE.out], _, by rw [HG.out.1]; exact hP2.ms (K := fun k => k = 5) (Ms.one (k := 5) rfl sL) (by omega) (by omega) (by omega), (HMS1.out.step (k := 5) (by unfold K135; omega) (Stp.below HB2.out HP1.out.fr)).step (k := 5) (by unfold K135; omega) sL⟩
set_option maxHeartbeats 4000000 in
theorem putGo_room (h : Plg w v S P B lb db mb g) (hcap : Caps w v b1 b2 lb need) (hd : Dt w v (.slice A n c) l) (hn : n ≤ 4096) (hneed : need ≤ 1000) (hx1 : 1 ≤ g.next) (hx : g.next < 900000) (hM : g.M.length ≤ 80000) (hr : refI P B kind l.length = 0) (hroom : room P B l.length g = true) :
    Calls Try.prog 56 #[.int .u8 (kind.toNat : Int), .slice A n c, .pointer (some ⟨b1, 0, none⟩), .pointer (some ⟨b2, 0, none⟩)] w (PutTo K135 S P B lb db mb kind l need g w v) := by
  have hln := (dt_bs9 hd).len
  have hb0 := below_new4 w (.cells #[.int .i64 0, .int .i64 0] 51)
  obtain ⟨hp1, hst1⟩ := h.box (.cells #[.int .i64 0, .int .i64 0] 51) 5
  have hcap1 := hcap.below hb0
  have hv1 : paint v w.heap.size 5 b1 = 0 := by rw [paint_other (by have := hcap.lt1; omega)]; exact hcap.v1
  have hv2 : paint v w.heap.size 5 b2 = 0 := by rw [paint_other (by have := hcap.lt2; omega)]; exact hcap.v2
  have HC1 : Hid (Caps (w.alloc (.cells #[.int .i64 0, .int .i64 0] 51)) (paint v w.heap.size 5) b1 b2 lb need) := Lib.hid ⟨hcap1.c1, hcap1.c2, hv1, hv2⟩
  have hms1 : Ms K135 w v (w.alloc (.cells #[.int .i64 0, .int .i64 0] 51)) (paint v w.heap.size 5) := Ms.one (k := 5) (by unfold K135; omega) hst1
  have HMS1 := Lib.hid hms1
  have HD1 : Hid (Dt (w.alloc (.cells #[.int .i64 0, .int .i64 0] 51)) (paint v w.heap.size 5) (.slice A n c) l) := Lib.hid (hms1.dt hd (by unfold K135; omega))
  have HAB1 := Lib.hid (Ab.new w 0 0)
  have HP1 := Lib.hid hp1
  have HVN : Hid (paint v w.heap.size 5 w.heap.size = 5) := Lib.hid (paint_same _ _ _)
  have c1 := hcap1.c1
  have cr := refusal_any hp1 kind A n c hn
  have hln9 : refI P B kind n = refI P B kind l.length := by rw [hln]
  have hpn : Fm.pages n B = Fm.pages l.length B := by rw [hln]
  rw [hln9, hr] at cr
  have he : perr P B kind l need g = 0 := by rw [perr_of hr, if_pos hroom]
  have hrd : ready P B l.length g = g := by unfold ready; rw [if_pos hroom]
  have HG : Hid (putG P B kind l need g = laid B kind l g ∧ putAt P B kind l need g = (g.op, g.page)) := Lib.hid (by unfold putG putAt; rw [if_pos he, if_pos he, hrd]; exact ⟨rfl, rfl⟩)
  unfold room at hroom
  simp only [Bool.and_eq_true, decide_eq_true_eq] at hroom
  obtain ⟨h0, hfit⟩ := hroom
  have HFIT := Lib.hid hfit
  have hpg := (h.inv.someO h0).2.2.1
  have e0 : decide (g.op < 0) = false := decide_eq_false (by omega)
  have HE := Lib.hid he
  clear hln9 h hcap hd hp1 hst1 hcap1 hv1 hv2 hms1
  clear he hr hrd hfit
  go_enter Try.func56, Try.ntmps56
  go_wp2_with (first
    | (go_at_call 57; (with_reducible refine cr.mono ?_); rintro e w2 ⟨rfl, hb2⟩; have HB2 := Lib.hid hb2; have HP2 := Lib.hid (HP1.out.below hb2); have HC2 := Lib.hid (HC1.out.below hb2); have co := lopen_any HP2.out; have c2 := HC2.out.c1; clear hb2 cr)
    | (go_at_call 10; (with_reducible refine co.mono ?_); rintro e w3 ⟨rfl, hb3⟩; have HB3 := Lib.hid (HB2.out.trans (hb3.mono HB2.out.size)); have HP3 := Lib.hid (HP2.out.below hb3); have HC3 := Lib.hid (HC2.out.below hb3); have c3 := HC3.out.c1; have cf := lfits_any HP3.out g.page (by omega) A n c hn; rw [hpn, decide_eq_true HFIT.out] at cf; clear hb3 co)
    | (go_at_call 58; (with_reducible refine cf.mono ?_); rintro e w4 ⟨rfl, hb4⟩; have HB4 := Lib.hid (HB3.out.trans (hb4.mono HB3.out.size)); have HP4 := Lib.hid (HP3.out.below hb4); have HC4 := Lib.hid (HC3.out.below hb4); have c4 := HC4.out.c1; have cl := llay_any HP4.out h0 kind A n c l ((dt_bs9 HD1.out).below HB4.out |>.mono HB4.out.size) hn HFIT.out hx1 (by omega) (by omega); clear hb4 cf)
    | (go_at_call 60; (with_reducible refine cl.mono ?_); rintro e w7 ⟨rfl, v7, hP7, hM7⟩; have HP7 := Lib.hid hP7; have HM7 := Lib.hid hM7; have hab := (HAB1.out.below HB4.out).ms hM7 (by rw [HVN.out]; unfold K13; omega); have x0 := hab.c0; have x1 := hab.c1; have y0 := hab.f0; have y1 := hab.f1; have HAB := Lib.hid hab; clear cl hP7 hM7 hab))
  have hT := HAB.out.put g.op g.page
  have z0 := hT.c0
  have z1 := hT.c1
  have hvn7 : v7 w.heap.size = 5 := by rw [HM7.out.same (HAB1.out.below HB4.out).lt]; exact HVN.out
  have sL := box_last (k := 5) (x := g.op) (y := g.page) HAB.out HP7.out.fr hvn7
  exact bodyPost_ret (v := .tuple #[.agg #[.int .i64 g.op, .int .i64 g.page], .int .i64 0]) (by simp [results, Try.results56, go_sem, z0, z1]) rfl
    ⟨by rw [HG.out.2, HE.out], _, by rw [HG.out.1]; exact HP7.out.ms (K := fun k => k = 5) (Ms.one (k := 5) rfl sL) (by omega) (by omega) (by omega), ((HMS1.out.step (k := 5) (by unfold K135; omega) (Stp.below HB4.out HP1.out.fr)).trans (HM7.out.mono k13_135)).step (k := 5) (by unfold K135; omega) sL⟩
set_option maxHeartbeats 4000000 in
theorem putGo_shut_full (h : Plg w v S P B lb db mb g) (hcap : Caps w v b1 b2 lb need) (hd : Dt w v (.slice A n c) l) (hn : n ≤ 4096) (hneed : need ≤ 1000) (hx1 : 1 ≤ g.next) (hx : g.next < 900000) (hM : g.M.length ≤ 80000) (hr : refI P B kind l.length = 0) (hop : g.op < 0) (hc : cnt 0 g.st < need) :
    Calls Try.prog 56 #[.int .u8 (kind.toNat : Int), .slice A n c, .pointer (some ⟨b1, 0, none⟩), .pointer (some ⟨b2, 0, none⟩)] w (PutTo K135 S P B lb db mb kind l need g w v) := by
  have hln := (dt_bs9 hd).len
  have hb0 := below_new4 w (.cells #[.int .i64 0, .int .i64 0] 51)
  obtain ⟨hp1, hst1⟩ := h.box (.cells #[.int .i64 0, .int .i64 0] 51) 5
  have hcap1 := hcap.below hb0
  have hv1 : paint v w.heap.size 5 b1 = 0 := by rw [paint_other (by have := hcap.lt1; omega)]; exact hcap.v1
  have hv2 : paint v w.heap.size 5 b2 = 0 := by rw [paint_other (by have := hcap.lt2; omega)]; exact hcap.v2
  have HC1 : Hid (Caps (w.alloc (.cells #[.int .i64 0, .int .i64 0] 51)) (paint v w.heap.size 5) b1 b2 lb need) := Lib.hid ⟨hcap1.c1, hcap1.c2, hv1, hv2⟩
  have hms1 : Ms K135 w v (w.alloc (.cells #[.int .i64 0, .int .i64 0] 51)) (paint v w.heap.size 5) := Ms.one (k := 5) (by unfold K135; omega) hst1
  have HMS1 := Lib.hid hms1
  have HD1 : Hid (Dt (w.alloc (.cells #[.int .i64 0, .int .i64 0] 51)) (paint v w.heap.size 5) (.slice A n c) l) := Lib.hid (hms1.dt hd (by unfold K135; omega))
  have HAB1 := Lib.hid (Ab.new w 0 0)
  have HP1 := Lib.hid hp1
  have HVN : Hid (paint v w.heap.size 5 w.heap.size = 5) := Lib.hid (paint_same _ _ _)
  have c1 := hcap1.c1
  have cr := refusal_any hp1 kind A n c hn
  have hln9 : refI P B kind n = refI P B kind l.length := by rw [hln]
  have hpn : Fm.pages n B = Fm.pages l.length B := by rw [hln]
  rw [hln9, hr] at cr
  have hroom : room P B l.length g = false := by unfold room; rw [decide_eq_false (by omega)]; rfl
  have he : perr P B kind l need g = 5 := by rw [perr_of hr, if_neg (by rw [hroom]; exact Bool.false_ne_true), if_pos hc]
  have HG : Hid (putG P B kind l need g = g ∧ putAt P B kind l need g = (0, 0)) := Lib.hid (by unfold putG putAt; rw [he, if_neg (by omega), if_neg (by omega)]; exact ⟨rfl, rfl⟩)
  have hcn : decide ((cnt 0 g.st : Int) < (need : Int)) = true := decide_eq_true (by omega)
  have hcn2 : decide (cnt 0 g.st < need) = true := decide_eq_true (by omega)
  have e0 : decide (g.op < 0) = true := decide_eq_true hop
  have HE := Lib.hid he
  clear hln9 h hcap hd hp1 hst1 hcap1 hv1 hv2 hms1
  clear he hr hroom
  go_enter Try.func56, Try.ntmps56
  go_wp2_with (first
    | (go_at_call 57; (with_reducible refine cr.mono ?_); rintro e w2 ⟨rfl, hb2⟩; have HB2 := Lib.hid hb2; have HP2 := Lib.hid (HP1.out.below hb2); have HC2 := Lib.hid (HC1.out.below hb2); have co := lopen_any HP2.out; have c2 := HC2.out.c1; clear hb2 cr)
    | (go_at_call 10; (with_reducible refine co.mono ?_); rintro e w3 ⟨rfl, hb3⟩; have HB3 := Lib.hid (HB2.out.trans (hb3.mono HB2.out.size)); have HP3 := Lib.hid (HP2.out.below hb3); have HC3 := Lib.hid (HC2.out.below hb3); have c3 := HC3.out.c1; clear hb3 co))
  have hbd : Below (w.alloc (.cells #[.int .i64 0, .int .i64 0] 51)).heap.size (w.alloc (.cells #[.int .i64 0, .int .i64 0] 51)) w3.drew := HB3.out.drew
  have HPD := Lib.hid (HP1.out.below hbd)
  have HCD := Lib.hid (HC1.out.below hbd)
  have HQ0 : Hid (w3.drew.cell? ⟨b1, 0, none⟩ = some (.pointer (some ⟨lb, 0, none⟩)) ∧ w3.drew.cell? ⟨b2, 0, none⟩ = some (.int .i64 need)) := Lib.hid ⟨HCD.out.c1, HCD.out.c2⟩
  have cc := count_any HPD.out 0
  obtain ⟨y, hy⟩ : ∃ y, y = cnt 0 g.st := ⟨_, rfl⟩
  rw [← hy] at cc hcn hcn2
  clear hy
  go_region_held3 (fun W => W.cell? ⟨b1, 0, none⟩ = some (.pointer (some ⟨lb, 0, none⟩)) ∧ W.cell? ⟨b2, 0, none⟩ = some (.int .i64 need))
    (first | exact HQ0.out | exact HQ1.out)
    ((first | (go_at_call 14; (with_reducible refine cc.mono ?_); rintro e w5 ⟨rfl, hb5⟩; have HB5 := Lib.hid (hbd.trans (hb5.mono hbd.size)); have HP5 := Lib.hid (HPD.out.below hb5); have HC5 := Lib.hid (HCD.out.below hb5); have HQ1 : Hid (w5.cell? ⟨b1, 0, none⟩ = some (.pointer (some ⟨lb, 0, none⟩)) ∧ w5.cell? ⟨b2, 0, none⟩ = some (.int .i64 need)) := Lib.hid ⟨HC5.out.c1, HC5.out.c2⟩; clear cc hb5)))
  have hab := HAB1.out.below HB5.out
  have x0 := hab.c0
  have x1 := hab.c1
  have y0 := hab.f0
  have y1 := hab.f1
  go_wp2
  have hT := hab.put 0 0
  have z0 := hT.c0
  have z1 := hT.c1
  have sL := box_last (k := 5) (x := 0) (y := 0) hab HP5.out.fr HVN.out
  exact bodyPost_ret (v := .tuple #[.agg #[.int .i64 0, .int .i64 0], .int .i64 5]) (by simp [results, Try.results56, go_sem, z0, z1]) rfl
    ⟨by rw [HG.out.2, HE.out], _, by rw [HG.out.1]; exact HP5.out.ms (K := fun k => k = 5) (Ms.one (k := 5) rfl sL) (by omega) (by omega) (by omega), (HMS1.out.step (k := 5) (by unfold K135; omega) (Stp.below HB5.out HP1.out.fr)).step (k := 5) (by unfold K135; omega) sL⟩
set_option maxHeartbeats 4000000 in
theorem putGo_shut_new (h : Plg w v S P B lb db mb g) (hcap : Caps w v b1 b2 lb need) (hd : Dt w v (.slice A n c) l) (hn : n ≤ 4096) (hneed : need ≤ 1000) (hx1 : 1 ≤ g.next) (hx : g.next < 900000) (hM : g.M.length ≤ 80000) (hr : refI P B kind l.length = 0) (hop : g.op < 0) (hc : ¬ cnt 0 g.st < need) (hneed1 : 1 ≤ need) :
    Calls Try.prog 56 #[.int .u8 (kind.toNat : Int), .slice A n c, .pointer (some ⟨b1, 0, none⟩), .pointer (some ⟨b2, 0, none⟩)] w (PutTo K135 S P B lb db mb kind l need g w v) := by
  have hln := (dt_bs9 hd).len
  have hb0 := below_new4 w (.cells #[.int .i64 0, .int .i64 0] 51)
  obtain ⟨hp1, hst1⟩ := h.box (.cells #[.int .i64 0, .int .i64 0] 51) 5
  have hcap1 := hcap.below hb0
  have hv1 : paint v w.heap.size 5 b1 = 0 := by rw [paint_other (by have := hcap.lt1; omega)]; exact hcap.v1
  have hv2 : paint v w.heap.size 5 b2 = 0 := by rw [paint_other (by have := hcap.lt2; omega)]; exact hcap.v2
  have HC1 : Hid (Caps (w.alloc (.cells #[.int .i64 0, .int .i64 0] 51)) (paint v w.heap.size 5) b1 b2 lb need) := Lib.hid ⟨hcap1.c1, hcap1.c2, hv1, hv2⟩
  have hms1 : Ms K135 w v (w.alloc (.cells #[.int .i64 0, .int .i64 0] 51)) (paint v w.heap.size 5) := Ms.one (k := 5) (by unfold K135; omega) hst1
  have HMS1 := Lib.hid hms1
  have HD1 : Hid (Dt (w.alloc (.cells #[.int .i64 0, .int .i64 0] 51)) (paint v w.heap.size 5) (.slice A n c) l) := Lib.hid (hms1.dt hd (by unfold K135; omega))
  have HAB1 := Lib.hid (Ab.new w 0 0)
  have HP1 := Lib.hid hp1
  have HVN : Hid (paint v w.heap.size 5 w.heap.size = 5) := Lib.hid (paint_same _ _ _)
  have c1 := hcap1.c1
  have cr := refusal_any hp1 kind A n c hn
  have hln9 : refI P B kind n = refI P B kind l.length := by rw [hln]
  have hpn : Fm.pages n B = Fm.pages l.length B := by rw [hln]
  rw [hln9, hr] at cr
  have hroom : room P B l.length g = false := by unfold room; rw [decide_eq_false (by omega)]; rfl
  have he : perr P B kind l need g = 0 := by rw [perr_of hr, if_neg (by rw [hroom]; exact Bool.false_ne_true), if_neg hc]
  have hrd : ready P B l.length g = opened B g := by unfold ready; rw [if_neg (by rw [hroom]; exact Bool.false_ne_true)]
  have hrdy := perr_ready h.inv hneed1 he
  rw [hrd] at hrdy
  obtain ⟨hI2, ho2, hf2⟩ := hrdy
  have HO2 := Lib.hid ho2
  have HF2 := Lib.hid hf2
  have HG : Hid (putG P B kind l need g = laid B kind l (opened B g) ∧ putAt P B kind l need g = ((opened B g).op, (opened B g).page)) := Lib.hid (by unfold putG putAt; rw [if_pos he, if_pos he, hrd]; exact ⟨rfl, rfl⟩)
  have hcn : decide ((cnt 0 g.st : Int) < (need : Int)) = false := decide_eq_false (by omega)
  have hcn2 : decide (cnt 0 g.st < need) = false := decide_eq_false (by omega)
  have HCC : Hid (0 < cnt 0 g.st) := Lib.hid (by omega)
  have e0 : decide (g.op < 0) = true := decide_eq_true hop
  have HE := Lib.hid he
  clear hln9 h hcap hd hp1 hst1 hcap1 hv1 hv2 hms1
  clear he hr hroom hrd hI2 ho2 hf2
  go_enter Try.func56, Try.ntmps56
  go_wp2_with (first
    | (go_at_call 57; (with_reducible refine cr.mono ?_); rintro e w2 ⟨rfl, hb2⟩; have HB2 := Lib.hid hb2; have HP2 := Lib.hid (HP1.out.below hb2); have HC2 := Lib.hid (HC1.out.below hb2); have co := lopen_any HP2.out; have c2 := HC2.out.c1; clear hb2 cr)
    | (go_at_call 10; (with_reducible refine co.mono ?_); rintro e w3 ⟨rfl, hb3⟩; have HB3 := Lib.hid (HB2.out.trans (hb3.mono HB2.out.size)); have HP3 := Lib.hid (HP2.out.below hb3); have HC3 := Lib.hid (HC2.out.below hb3); have c3 := HC3.out.c1; clear hb3 co))
  have hbd : Below (w.alloc (.cells #[.int .i64 0, .int .i64 0] 51)).heap.size (w.alloc (.cells #[.int .i64 0, .int .i64 0] 51)) w3.drew := HB3.out.drew
  have HPD := Lib.hid (HP1.out.below hbd)
  have HCD := Lib.hid (HC1.out.below hbd)
  have HQ0 : Hid (w3.drew.cell? ⟨b1, 0, none⟩ = some (.pointer (some ⟨lb, 0, none⟩)) ∧ w3.drew.cell? ⟨b2, 0, none⟩ = some (.int .i64 need)) := Lib.hid ⟨HCD.out.c1, HCD.out.c2⟩
  have cc := count_any HPD.out 0
  obtain ⟨y, hy⟩ : ∃ y, y = cnt 0 g.st := ⟨_, rfl⟩
  rw [← hy] at cc hcn hcn2
  clear hy
  go_region_held3 (fun W => W.cell? ⟨b1, 0, none⟩ = some (.pointer (some ⟨lb, 0, none⟩)) ∧ W.cell? ⟨b2, 0, none⟩ = some (.int .i64 need))
    (first | exact HQ0.out | exact HQ1.out)
    ((first | (go_at_call 14; (with_reducible refine cc.mono ?_); rintro e w5 ⟨rfl, hb5⟩; have HB5 := Lib.hid (hbd.trans (hb5.mono hbd.size)); have HP5 := Lib.hid (HPD.out.below hb5); have HC5 := Lib.hid (HCD.out.below hb5); have HQ1 : Hid (w5.cell? ⟨b1, 0, none⟩ = some (.pointer (some ⟨lb, 0, none⟩)) ∧ w5.cell? ⟨b2, 0, none⟩ = some (.int .i64 need)) := Lib.hid ⟨HC5.out.c1, HC5.out.c2⟩; clear cc hb5)))
  have c5 := HC5.out.c1
  have cb := begin_any HP5.out HCC.out (by omega) (by omega)
  go_wp2_with (first
    | (go_at_call 59; (with_reducible refine cb.mono ?_); rintro e w6 ⟨rfl, v6, hP6, hM6⟩; have HP6 := Lib.hid hP6; have HM6 := Lib.hid hM6; have HC6 := Lib.hid (HC5.out.ms hM6 (by unfold K13; omega)); have c6 := HC6.out.c1; have hd6 := hM6.dt (HD1.out.stp (k := 9) (Stp.below HB5.out HP1.out.fr) (by omega)) (by unfold K13; omega); have cl := llay_any hP6 HO2.out kind A n c l (dt_bs9 hd6) hn HF2.out (by show 1 ≤ g.next + 1; omega) (by show g.next + 1 < 1000000; omega) (by rw [opened_length]; omega); clear cb hP6 hM6 hd6)
    | (go_at_call 60; (with_reducible refine cl.mono ?_); rintro e w7 ⟨rfl, v7, hP7, hM7⟩; have HP7 := Lib.hid hP7; have HM7 := Lib.hid (HM6.out.trans hM7); have hab := (HAB1.out.below HB5.out).ms HM7.out (by rw [HVN.out]; unfold K13; omega); have x0 := hab.c0; have x1 := hab.c1; have y0 := hab.f0; have y1 := hab.f1; have HAB := Lib.hid hab; clear cl hP7 hM7 hab))
  have hT := HAB.out.put (opened B g).op (opened B g).page
  have z0 := hT.c0
  have z1 := hT.c1
  have hvn7 : v7 w.heap.size = 5 := by rw [HM7.out.same (HAB1.out.below HB5.out).lt]; exact HVN.out
  have sL := box_last (k := 5) (x := (opened B g).op) (y := (opened B g).page) HAB.out HP7.out.fr hvn7
  exact bodyPost_ret (v := .tuple #[.agg #[.int .i64 (opened B g).op, .int .i64 (opened B g).page], .int .i64 0]) (by simp [results, Try.results56, go_sem, z0, z1]) rfl
    ⟨by rw [HG.out.2, HE.out], _, by rw [HG.out.1]; exact HP7.out.ms (K := fun k => k = 5) (Ms.one (k := 5) rfl sL) (by omega) (by omega) (by omega), ((HMS1.out.step (k := 5) (by unfold K135; omega) (Stp.below HB5.out HP1.out.fr)).trans (HM7.out.mono k13_135)).step (k := 5) (by unfold K135; omega) sL⟩
set_option maxHeartbeats 4000000 in
theorem putGo_small_full (h : Plg w v S P B lb db mb g) (hcap : Caps w v b1 b2 lb need) (hd : Dt w v (.slice A n c) l) (hn : n ≤ 4096) (hneed : need ≤ 1000) (hx1 : 1 ≤ g.next) (hx : g.next < 900000) (hM : g.M.length ≤ 80000) (hr : refI P B kind l.length = 0) (h0 : 0 ≤ g.op) (hfit : ¬ g.page + (Fm.pages l.length B : Int) ≤ (P : Int)) (hc : cnt 0 g.st < need) :
    Calls Try.prog 56 #[.int .u8 (kind.toNat : Int), .slice A n c, .pointer (some ⟨b1, 0, none⟩), .pointer (some ⟨b2, 0, none⟩)] w (PutTo K135 S P B lb db mb kind l need g w v) := by
  have hln := (dt_bs9 hd).len
  have hb0 := below_new4 w (.cells #[.int .i64 0, .int .i64 0] 51)
  obtain ⟨hp1, hst1⟩ := h.box (.cells #[.int .i64 0, .int .i64 0] 51) 5
  have hcap1 := hcap.below hb0
  have hv1 : paint v w.heap.size 5 b1 = 0 := by rw [paint_other (by have := hcap.lt1; omega)]; exact hcap.v1
  have hv2 : paint v w.heap.size 5 b2 = 0 := by rw [paint_other (by have := hcap.lt2; omega)]; exact hcap.v2
  have HC1 : Hid (Caps (w.alloc (.cells #[.int .i64 0, .int .i64 0] 51)) (paint v w.heap.size 5) b1 b2 lb need) := Lib.hid ⟨hcap1.c1, hcap1.c2, hv1, hv2⟩
  have hms1 : Ms K135 w v (w.alloc (.cells #[.int .i64 0, .int .i64 0] 51)) (paint v w.heap.size 5) := Ms.one (k := 5) (by unfold K135; omega) hst1
  have HMS1 := Lib.hid hms1
  have HD1 : Hid (Dt (w.alloc (.cells #[.int .i64 0, .int .i64 0] 51)) (paint v w.heap.size 5) (.slice A n c) l) := Lib.hid (hms1.dt hd (by unfold K135; omega))
  have HAB1 := Lib.hid (Ab.new w 0 0)
  have HP1 := Lib.hid hp1
  have HVN : Hid (paint v w.heap.size 5 w.heap.size = 5) := Lib.hid (paint_same _ _ _)
  have c1 := hcap1.c1
  have cr := refusal_any hp1 kind A n c hn
  have hln9 : refI P B kind n = refI P B kind l.length := by rw [hln]
  have hpn : Fm.pages n B = Fm.pages l.length B := by rw [hln]
  rw [hln9, hr] at cr
  have hroom : room P B l.length g = false := by unfold room; rw [decide_eq_false hfit, Bool.and_false]
  have he : perr P B kind l need g = 5 := by rw [perr_of hr, if_neg (by rw [hroom]; exact Bool.false_ne_true), if_pos hc]
  have HG : Hid (putG P B kind l need g = g ∧ putAt P B kind l need g = (0, 0)) := Lib.hid (by unfold putG putAt; rw [he, if_neg (by omega), if_neg (by omega)]; exact ⟨rfl, rfl⟩)
  have hcn : decide ((cnt 0 g.st : Int) < (need : Int)) = true := decide_eq_true (by omega)
  have hcn2 : decide (cnt 0 g.st < need) = true := decide_eq_true (by omega)
  have hpg := (h.inv.someO h0).2.2.1
  have HFIT := Lib.hid hfit
  have e0 : decide (g.op < 0) = false := decide_eq_false (by omega)
  have HE := Lib.hid he
  clear hln9 h hcap hd hp1 hst1 hcap1 hv1 hv2 hms1
  clear he hr hroom hfit
  go_enter Try.func56, Try.ntmps56
  go_wp2_with (first
    | (go_at_call 57; (with_reducible refine cr.mono ?_); rintro e w2 ⟨rfl, hb2⟩; have HB2 := Lib.hid hb2; have HP2 := Lib.hid (HP1.out.below hb2); have HC2 := Lib.hid (HC1.out.below hb2); have co := lopen_any HP2.out; have c2 := HC2.out.c1; clear hb2 cr)
    | (go_at_call 10; (with_reducible refine co.mono ?_); rintro e w3 ⟨rfl, hb3⟩; have HB3 := Lib.hid (HB2.out.trans (hb3.mono HB2.out.size)); have HP3 := Lib.hid (HP2.out.below hb3); have HC3 := Lib.hid (HC2.out.below hb3); have c3 := HC3.out.c1; have cf := lfits_any HP3.out g.page (by omega) A n c hn; rw [hpn, decide_eq_false (by have := HFIT.out; omega)] at cf; clear hb3 co)
    | (go_at_call 58; (with_reducible refine cf.mono ?_); rintro e w4 ⟨rfl, hb4⟩; have HB4 := Lib.hid (HB3.out.trans (hb4.mono HB3.out.size)); have HP4 := Lib.hid (HP3.out.below hb4); have HC4 := Lib.hid (HC3.out.below hb4); have c4 := HC4.out.c1; clear hb4 cf))
  have hbd : Below (w.alloc (.cells #[.int .i64 0, .int .i64 0] 51)).heap.size (w.alloc (.cells #[.int .i64 0, .int .i64 0] 51)) w4.drew := HB4.out.drew
  have HPD := Lib.hid (HP1.out.below hbd)
  have HCD := Lib.hid (HC1.out.below hbd)
  have HQ0 : Hid (w4.drew.cell? ⟨b1, 0, none⟩ = some (.pointer (some ⟨lb, 0, none⟩)) ∧ w4.drew.cell? ⟨b2, 0, none⟩ = some (.int .i64 need)) := Lib.hid ⟨HCD.out.c1, HCD.out.c2⟩
  have cc := count_any HPD.out 0
  obtain ⟨y, hy⟩ : ∃ y, y = cnt 0 g.st := ⟨_, rfl⟩
  rw [← hy] at cc hcn hcn2
  clear hy
  go_region_held3 (fun W => W.cell? ⟨b1, 0, none⟩ = some (.pointer (some ⟨lb, 0, none⟩)) ∧ W.cell? ⟨b2, 0, none⟩ = some (.int .i64 need))
    (first | exact HQ0.out | exact HQ1.out)
    ((first | (go_at_call 14; (with_reducible refine cc.mono ?_); rintro e w5 ⟨rfl, hb5⟩; have HB5 := Lib.hid (hbd.trans (hb5.mono hbd.size)); have HP5 := Lib.hid (HPD.out.below hb5); have HC5 := Lib.hid (HCD.out.below hb5); have HQ1 : Hid (w5.cell? ⟨b1, 0, none⟩ = some (.pointer (some ⟨lb, 0, none⟩)) ∧ w5.cell? ⟨b2, 0, none⟩ = some (.int .i64 need)) := Lib.hid ⟨HC5.out.c1, HC5.out.c2⟩; clear cc hb5)))
  have hab := HAB1.out.below HB5.out
  have x0 := hab.c0
  have x1 := hab.c1
  have y0 := hab.f0
  have y1 := hab.f1
  go_wp2
  have hT := hab.put 0 0
  have z0 := hT.c0
  have z1 := hT.c1
  have sL := box_last (k := 5) (x := 0) (y := 0) hab HP5.out.fr HVN.out
  exact bodyPost_ret (v := .tuple #[.agg #[.int .i64 0, .int .i64 0], .int .i64 5]) (by simp [results, Try.results56, go_sem, z0, z1]) rfl
    ⟨by rw [HG.out.2, HE.out], _, by rw [HG.out.1]; exact HP5.out.ms (K := fun k => k = 5) (Ms.one (k := 5) rfl sL) (by omega) (by omega) (by omega), (HMS1.out.step (k := 5) (by unfold K135; omega) (Stp.below HB5.out HP1.out.fr)).step (k := 5) (by unfold K135; omega) sL⟩
set_option maxHeartbeats 4000000 in
theorem putGo_small_new (h : Plg w v S P B lb db mb g) (hcap : Caps w v b1 b2 lb need) (hd : Dt w v (.slice A n c) l) (hn : n ≤ 4096) (hneed : need ≤ 1000) (hx1 : 1 ≤ g.next) (hx : g.next < 900000) (hM : g.M.length ≤ 80000) (hr : refI P B kind l.length = 0) (h0 : 0 ≤ g.op) (hfit : ¬ g.page + (Fm.pages l.length B : Int) ≤ (P : Int)) (hc : ¬ cnt 0 g.st < need) (hneed1 : 1 ≤ need) :
    Calls Try.prog 56 #[.int .u8 (kind.toNat : Int), .slice A n c, .pointer (some ⟨b1, 0, none⟩), .pointer (some ⟨b2, 0, none⟩)] w (PutTo K135 S P B lb db mb kind l need g w v) := by
  have hln := (dt_bs9 hd).len
  have hb0 := below_new4 w (.cells #[.int .i64 0, .int .i64 0] 51)
  obtain ⟨hp1, hst1⟩ := h.box (.cells #[.int .i64 0, .int .i64 0] 51) 5
  have hcap1 := hcap.below hb0
  have hv1 : paint v w.heap.size 5 b1 = 0 := by rw [paint_other (by have := hcap.lt1; omega)]; exact hcap.v1
  have hv2 : paint v w.heap.size 5 b2 = 0 := by rw [paint_other (by have := hcap.lt2; omega)]; exact hcap.v2
  have HC1 : Hid (Caps (w.alloc (.cells #[.int .i64 0, .int .i64 0] 51)) (paint v w.heap.size 5) b1 b2 lb need) := Lib.hid ⟨hcap1.c1, hcap1.c2, hv1, hv2⟩
  have hms1 : Ms K135 w v (w.alloc (.cells #[.int .i64 0, .int .i64 0] 51)) (paint v w.heap.size 5) := Ms.one (k := 5) (by unfold K135; omega) hst1
  have HMS1 := Lib.hid hms1
  have HD1 : Hid (Dt (w.alloc (.cells #[.int .i64 0, .int .i64 0] 51)) (paint v w.heap.size 5) (.slice A n c) l) := Lib.hid (hms1.dt hd (by unfold K135; omega))
  have HAB1 := Lib.hid (Ab.new w 0 0)
  have HP1 := Lib.hid hp1
  have HVN : Hid (paint v w.heap.size 5 w.heap.size = 5) := Lib.hid (paint_same _ _ _)
  have c1 := hcap1.c1
  have cr := refusal_any hp1 kind A n c hn
  have hln9 : refI P B kind n = refI P B kind l.length := by rw [hln]
  have hpn : Fm.pages n B = Fm.pages l.length B := by rw [hln]
  rw [hln9, hr] at cr
  have hroom : room P B l.length g = false := by unfold room; rw [decide_eq_false hfit, Bool.and_false]
  have he : perr P B kind l need g = 0 := by rw [perr_of hr, if_neg (by rw [hroom]; exact Bool.false_ne_true), if_neg hc]
  have hrd : ready P B l.length g = opened B g := by unfold ready; rw [if_neg (by rw [hroom]; exact Bool.false_ne_true)]
  have hrdy := perr_ready h.inv hneed1 he
  rw [hrd] at hrdy
  obtain ⟨hI2, ho2, hf2⟩ := hrdy
  have HO2 := Lib.hid ho2
  have HF2 := Lib.hid hf2
  have HG : Hid (putG P B kind l need g = laid B kind l (opened B g) ∧ putAt P B kind l need g = ((opened B g).op, (opened B g).page)) := Lib.hid (by unfold putG putAt; rw [if_pos he, if_pos he, hrd]; exact ⟨rfl, rfl⟩)
  have hcn : decide ((cnt 0 g.st : Int) < (need : Int)) = false := decide_eq_false (by omega)
  have hcn2 : decide (cnt 0 g.st < need) = false := decide_eq_false (by omega)
  have HCC : Hid (0 < cnt 0 g.st) := Lib.hid (by omega)
  have hpg := (h.inv.someO h0).2.2.1
  have HFIT := Lib.hid hfit
  have e0 : decide (g.op < 0) = false := decide_eq_false (by omega)
  have HE := Lib.hid he
  clear hln9 h hcap hd hp1 hst1 hcap1 hv1 hv2 hms1
  clear he hr hroom hrd hI2 ho2 hf2 hfit
  go_enter Try.func56, Try.ntmps56
  go_wp2_with (first
    | (go_at_call 57; (with_reducible refine cr.mono ?_); rintro e w2 ⟨rfl, hb2⟩; have HB2 := Lib.hid hb2; have HP2 := Lib.hid (HP1.out.below hb2); have HC2 := Lib.hid (HC1.out.below hb2); have co := lopen_any HP2.out; have c2 := HC2.out.c1; clear hb2 cr)
    | (go_at_call 10; (with_reducible refine co.mono ?_); rintro e w3 ⟨rfl, hb3⟩; have HB3 := Lib.hid (HB2.out.trans (hb3.mono HB2.out.size)); have HP3 := Lib.hid (HP2.out.below hb3); have HC3 := Lib.hid (HC2.out.below hb3); have c3 := HC3.out.c1; have cf := lfits_any HP3.out g.page (by omega) A n c hn; rw [hpn, decide_eq_false (by have := HFIT.out; omega)] at cf; clear hb3 co)
    | (go_at_call 58; (with_reducible refine cf.mono ?_); rintro e w4 ⟨rfl, hb4⟩; have HB4 := Lib.hid (HB3.out.trans (hb4.mono HB3.out.size)); have HP4 := Lib.hid (HP3.out.below hb4); have HC4 := Lib.hid (HC3.out.below hb4); have c4 := HC4.out.c1; clear hb4 cf))
  have hbd : Below (w.alloc (.cells #[.int .i64 0, .int .i64 0] 51)).heap.size (w.alloc (.cells #[.int .i64 0, .int .i64 0] 51)) w4.drew := HB4.out.drew
  have HPD := Lib.hid (HP1.out.below hbd)
  have HCD := Lib.hid (HC1.out.below hbd)
  have HQ0 : Hid (w4.drew.cell? ⟨b1, 0, none⟩ = some (.pointer (some ⟨lb, 0, none⟩)) ∧ w4.drew.cell? ⟨b2, 0, none⟩ = some (.int .i64 need)) := Lib.hid ⟨HCD.out.c1, HCD.out.c2⟩
  have cc := count_any HPD.out 0
  obtain ⟨y, hy⟩ : ∃ y, y = cnt 0 g.st := ⟨_, rfl⟩
  rw [← hy] at cc hcn hcn2
  clear hy
  go_region_held3 (fun W => W.cell? ⟨b1, 0, none⟩ = some (.pointer (some ⟨lb, 0, none⟩)) ∧ W.cell? ⟨b2, 0, none⟩ = some (.int .i64 need))
    (first | exact HQ0.out | exact HQ1.out)
    ((first | (go_at_call 14; (with_reducible refine cc.mono ?_); rintro e w5 ⟨rfl, hb5⟩; have HB5 := Lib.hid (hbd.trans (hb5.mono hbd.size)); have HP5 := Lib.hid (HPD.out.below hb5); have HC5 := Lib.hid (HCD.out.below hb5); have HQ1 : Hid (w5.cell? ⟨b1, 0, none⟩ = some (.pointer (some ⟨lb, 0, none⟩)) ∧ w5.cell? ⟨b2, 0, none⟩ = some (.int .i64 need)) := Lib.hid ⟨HC5.out.c1, HC5.out.c2⟩; clear cc hb5)))
  have c5 := HC5.out.c1
  have cb := begin_any HP5.out HCC.out (by omega) (by omega)
  go_wp2_with (first
    | (go_at_call 59; (with_reducible refine cb.mono ?_); rintro e w6 ⟨rfl, v6, hP6, hM6⟩; have HP6 := Lib.hid hP6; have HM6 := Lib.hid hM6; have HC6 := Lib.hid (HC5.out.ms hM6 (by unfold K13; omega)); have c6 := HC6.out.c1; have hd6 := hM6.dt (HD1.out.stp (k := 9) (Stp.below HB5.out HP1.out.fr) (by omega)) (by unfold K13; omega); have cl := llay_any hP6 HO2.out kind A n c l (dt_bs9 hd6) hn HF2.out (by show 1 ≤ g.next + 1; omega) (by show g.next + 1 < 1000000; omega) (by rw [opened_length]; omega); clear cb hP6 hM6 hd6)
    | (go_at_call 60; (with_reducible refine cl.mono ?_); rintro e w7 ⟨rfl, v7, hP7, hM7⟩; have HP7 := Lib.hid hP7; have HM7 := Lib.hid (HM6.out.trans hM7); have hab := (HAB1.out.below HB5.out).ms HM7.out (by rw [HVN.out]; unfold K13; omega); have x0 := hab.c0; have x1 := hab.c1; have y0 := hab.f0; have y1 := hab.f1; have HAB := Lib.hid hab; clear cl hP7 hM7 hab))
  have hT := HAB.out.put (opened B g).op (opened B g).page
  have z0 := hT.c0
  have z1 := hT.c1
  have hvn7 : v7 w.heap.size = 5 := by rw [HM7.out.same (HAB1.out.below HB5.out).lt]; exact HVN.out
  have sL := box_last (k := 5) (x := (opened B g).op) (y := (opened B g).page) HAB.out HP7.out.fr hvn7
  exact bodyPost_ret (v := .tuple #[.agg #[.int .i64 (opened B g).op, .int .i64 (opened B g).page], .int .i64 0]) (by simp [results, Try.results56, go_sem, z0, z1]) rfl
    ⟨by rw [HG.out.2, HE.out], _, by rw [HG.out.1]; exact HP7.out.ms (K := fun k => k = 5) (Ms.one (k := 5) rfl sL) (by omega) (by omega) (by omega), ((HMS1.out.step (k := 5) (by unfold K135; omega) (Stp.below HB5.out HP1.out.fr)).trans (HM7.out.mono k13_135)).step (k := 5) (by unfold K135; omega) sL⟩
theorem putGo_any (h : Plg w v S P B lb db mb g) (hcap : Caps w v b1 b2 lb need) (hd : Dt w v (.slice A n c) l) (hn : n ≤ 4096) (hneed : need ≤ 1000) (hx1 : 1 ≤ g.next) (hx : g.next < 900000) (hM : g.M.length ≤ 80000) (hneed1 : 1 ≤ need) :
    Calls Try.prog 56 #[.int .u8 (kind.toNat : Int), .slice A n c, .pointer (some ⟨b1, 0, none⟩), .pointer (some ⟨b2, 0, none⟩)] w (PutTo K135 S P B lb db mb kind l need g w v) := by
  by_cases hr : refI P B kind l.length = 0
  · cases hroom : room P B l.length g
    · by_cases hc : cnt 0 g.st < need
      · by_cases hop : g.op < 0
        · exact putGo_shut_full h hcap hd hn hneed hx1 hx hM hr hop hc
        · refine putGo_small_full h hcap hd hn hneed hx1 hx hM hr (by omega) ?_ hc
          intro hf
          unfold room at hroom
          rw [decide_eq_true (by omega), decide_eq_true hf] at hroom
          cases hroom
      · by_cases hop : g.op < 0
        · exact putGo_shut_new h hcap hd hn hneed hx1 hx hM hr hop hc hneed1
        · refine putGo_small_new h hcap hd hn hneed hx1 hx hM hr (by omega) ?_ hc hneed1
          intro hf
          unfold room at hroom
          rw [decide_eq_true (by omega), decide_eq_true hf] at hroom
          cases hroom
    · exact putGo_room h hcap hd hn hneed hx1 hx hM hr hroom
  · exact putGo_bad h hcap hd hn hneed hx1 hx hM hr
end
end Go.Proofs.YtndbjdnfibpicaaR
