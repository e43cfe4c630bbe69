/-
  The document's log: Put.
-/
import Derived.Test.YtndbjdnfibpicaaRRefLog
import Derived.Test.YtndbjdnfibpicaaRRefAppend
import Derived.Test.YtndbjdnfibpicaaRLogGo
namespace Go.Proofs.YtndbjdnfibpicaaR
open Go.ChangeShapes Go.WideShapes Go.ChangeAt Go.RowKit Fl Lo
set_option maxRecDepth 100000
set_option linter.unusedVariables false

/-- what a put comes to -/
def RefPutTo (S P B gb xb : Nat) (kind : UInt8) (l : List UInt8) (need : Nat) (g : Lg) (w : World) (v : Nat → Nat) (e : Ending) (w' : World) : Prop :=
  e = .returned (.tuple #[.agg #[.int .i64 (putAt P B kind l need g).1, .int .i64 (putAt P B kind l need g).2], .int .i64 (perr P B kind l need g)]) ∧ ∃ v', Rlg w' v' S P B gb xb (putG P B kind l need g) ∧ Ms Kr w v w' v'
section
variable {S P B gb xb need n c k : Nat} {w w' : World} {v v' : Nat → Nat} {g : Lg} {kind : UInt8} {A : Option Addr} {l : List UInt8} {K : Nat → Prop}
theorem Rlg.box (h : Rlg w v S P B gb xb g) (o : Obj) (c : Nat) : Rlg (w.alloc o) (paint v w.heap.size c) S P B gb xb g ∧ Stp c w (w.alloc o) v (paint v w.heap.size c) :=
  ⟨h.ms (K := fun k => k = 1) (Ms.one (k := 1) rfl ((Stp.below (below_new4 w o) h.fr).paint c (Nat.le_refl _) (by simp))) (by omega) (by omega) (by omega), (Stp.below (below_new4 w o) h.fr).paint c (Nat.le_refl _) (by simp)⟩
theorem ref_zero {P B n : Nat} {kind : UInt8} (hr : refI P B kind n = 0) : kind ≠ 1 ∧ ¬ P < Fm.pages n B + 1 := by
  unfold refI at hr
  by_cases h1 : kind = 1
  · rw [if_pos h1] at hr; omega
  · rw [if_neg h1] at hr
    by_cases h2 : P < Fm.pages n B + 1
    · rw [if_pos h2] at hr; omega
    · exact ⟨h1, h2⟩
/-- the log's cells, and its device's shape -/
structure Seen (w : World) (S P B gb xb rb cap : Nat) (g : Lg) : Prop where
  c0 : w.cell? ⟨gb, 0, none⟩ = some (.pointer (some ⟨xb, 0, none⟩))
  c1 : w.cell? ⟨gb, 1, none⟩ = some (.slice (some ⟨rb, 0, none⟩) S cap)
  c2 : w.cell? ⟨gb, 2, none⟩ = some (.int .i64 g.op)
  c3 : w.cell? ⟨gb, 3, none⟩ = some (.int .i64 g.page)
  c4 : w.cell? ⟨gb, 4, none⟩ = some (.int .u64 g.next)
  s0 : w.cell? ⟨xb, 0, none⟩ = some (.int .i64 S)
  s1 : w.cell? ⟨xb, 1, none⟩ = some (.int .i64 P)
  s2 : w.cell? ⟨xb, 2, none⟩ = some (.int .i64 B)
theorem Rlg.seen (h : Rlg w v S P B gb xb g) : ∃ rb cap, Seen w S P B gb xb rb cap g ∧ Gb w gb xb rb S cap g.op g.page g.next ∧ Rb w rb g.st ∧ v rb = 4 ∧ rb ≠ gb := by
  obtain ⟨rb, cap, h1, h2, h3, h4⟩ := h.blk
  obtain ⟨a0, a1, a2, a3, a4⟩ := h1.c
  obtain ⟨u, Q, -, s0, s1, s2, -⟩ := h.rdv.four
  exact ⟨rb, cap, ⟨a0, a1, a2, a3, a4, s0, s1, s2⟩, h1, h2, h3, h4⟩
set_option maxHeartbeats 4000000 in
theorem refPut_one (h : Rlg w v S P B gb xb g) (hd : Dt w v (.slice A n c) l) (hn : n ≤ 4096) (hneed : need ≤ 1000) (hx1 : 1 ≤ g.next) (hx : g.next < 900000) (hM : g.M.length ≤ 80000) (hk : kind = 1) :
    Calls Try.prog 26 #[.pointer (some ⟨gb, 0, none⟩), .int .u8 (kind.toNat : Int), .slice A n c, .int .i64 need] w (RefPutTo S P B gb xb kind l need g w v) := by
  have hln := (dt_bs9 hd).len
  obtain ⟨hp1, hst1⟩ := h.box (.cells #[.int .i64 0, .int .i64 0] 51) 6
  have HMS1 : Hid (Ms Kr w v (w.alloc (.cells #[.int .i64 0, .int .i64 0] 51)) (paint v w.heap.size 6)) := Lib.hid (Ms.one (k := 6) (by unfold Kr; omega) hst1)
  have HAB1 := Lib.hid (Ab.new w 0 0)
  have HVN : Hid (paint v w.heap.size 6 w.heap.size = 6) := Lib.hid (paint_same _ _ _)
  have hb2 := below_new4 (w.alloc (.cells #[.int .i64 0, .int .i64 0] 51)) (.cells #[.int .i64 S, .int .i64 P, .int .i64 B] 23)
  have hp2 := hp1.below hb2
  have HP2 := Lib.hid hp2
  have HB12 := Lib.hid hb2
  have HF1 := Lib.hid hp1.fr
  have HD2 : Hid (Dt ((w.alloc (.cells #[.int .i64 0, .int .i64 0] 51)).alloc (.cells #[.int .i64 S, .int .i64 P, .int .i64 B] 23)) (paint v w.heap.size 6) (.slice A n c) l) := Lib.hid (((Ms.one (K := fun k => k = 6) rfl hst1).dt hd (by omega)).stp (k := 9) (Stp.below hb2 hp1.fr) (by omega))
  have t3 := Three.new (w.alloc (.cells #[.int .i64 0, .int .i64 0] 51)) (.int .i64 S) (.int .i64 P) (.int .i64 B) 23
  rw [size_alloc] at t3
  have HT3 := Lib.hid t3
  have hbb := h.inv.shp.b1
  have hbb2 := h.inv.shp.b2
  have hpp2 := h.inv.shp.p2
  have cpg := refPages_any n B ((w.alloc (.cells #[.int .i64 0, .int .i64 0] 51)).alloc (.cells #[.int .i64 S, .int .i64 P, .int .i64 B] 23)) hn (by omega) (by omega)
  have hpn : Fm.pages n B = Fm.pages l.length B := by rw [hln]
  have hKle := pages_le n hbb
  obtain ⟨rb0, cap0, hse, -⟩ := hp1.seen
  obtain ⟨c0, c1, c2, c3, c4, s0, s1, s2⟩ := hse
  obtain ⟨-, y0, y1, y2, -⟩ := t3
  obtain ⟨K, hK⟩ : ∃ K, K = Fm.pages n B := ⟨_, rfl⟩
  rw [← hK] at cpg hpn hKle
  have HKE := Lib.hid hpn
  have HKK : Hid (Fm.pages n B = K) := Lib.hid hK.symm
  have HGBW : Hid (gb < w.heap.size ∧ True) := Lib.hid ⟨by obtain ⟨rb, cap, h1, _⟩ := h.blk; exact h1.lt, trivial⟩
  have e1k := u8_one_eq kind
  have hw1 : IntKind.i64.wrap ((K : Int) + 1) = (K : Int) + 1 := IntWalk.i64_in _ (by omega)
  have he : perr P B kind l need g = 1 := by unfold perr; rw [if_pos hk]
  rw [decide_eq_true hk] at e1k
  have HG : Hid (putG P B kind l need g = g ∧ putAt P B kind l need g = (0, 0)) := Lib.hid (by unfold putG putAt; rw [he, if_neg (by omega), if_neg (by omega)]; exact ⟨rfl, rfl⟩)
  have HE := Lib.hid he
  clear h hd hp1 hst1 hp2 hb2 hK
  clear he hpn hln hk
  go_enter Try.func26, Try.ntmps26
  have hab := HAB1.out.kept (HB12.out.block _ HAB1.out.lt)
  have x0 := hab.c0
  have x1 := hab.c1
  have z0 := hab.f0
  have z1 := hab.f1
  go_wp2_with (go_at_call 50; (with_reducible refine cpg.mono ?_); rintro e w3 ⟨rfl, rfl⟩; clear cpg)
  exact bodyPost_ret (v := .tuple #[.agg #[.int .i64 0, .int .i64 0], .int .i64 1]) (by simp [results, Try.results26, go_sem]) rfl
    ⟨by rw [HG.out.2, HE.out], _, by rw [HG.out.1]; exact HP2.out, HMS1.out.step (k := 6) (by unfold Kr; omega) (Stp.below HB12.out HF1.out)⟩
set_option maxHeartbeats 4000000 in
theorem refPut_long (h : Rlg w v S P B gb xb g) (hd : Dt w v (.slice A n c) l) (hn : n ≤ 4096) (hneed : need ≤ 1000) (hx1 : 1 ≤ g.next) (hx : g.next < 900000) (hM : g.M.length ≤ 80000) (hk : kind ≠ 1) (hlong : P < Fm.pages l.length B + 1) :
    Calls Try.prog 26 #[.pointer (some ⟨gb, 0, none⟩), .int .u8 (kind.toNat : Int), .slice A n c, .int .i64 need] w (RefPutTo S P B gb xb kind l need g w v) := by
  have hln := (dt_bs9 hd).len
  obtain ⟨hp1, hst1⟩ := h.box (.cells #[.int .i64 0, .int .i64 0] 51) 6
  have HMS1 : Hid (Ms Kr w v (w.alloc (.cells #[.int .i64 0, .int .i64 0] 51)) (paint v w.heap.size 6)) := Lib.hid (Ms.one (k := 6) (by unfold Kr; omega) hst1)
  have HAB1 := Lib.hid (Ab.new w 0 0)
  have HVN : Hid (paint v w.heap.size 6 w.heap.size = 6) := Lib.hid (paint_same _ _ _)
  have hb2 := below_new4 (w.alloc (.cells #[.int .i64 0, .int .i64 0] 51)) (.cells #[.int .i64 S, .int .i64 P, .int .i64 B] 23)
  have hp2 := hp1.below hb2
  have HP2 := Lib.hid hp2
  have HB12 := Lib.hid hb2
  have HF1 := Lib.hid hp1.fr
  have HD2 : Hid (Dt ((w.alloc (.cells #[.int .i64 0, .int .i64 0] 51)).alloc (.cells #[.int .i64 S, .int .i64 P, .int .i64 B] 23)) (paint v w.heap.size 6) (.slice A n c) l) := Lib.hid (((Ms.one (K := fun k => k = 6) rfl hst1).dt hd (by omega)).stp (k := 9) (Stp.below hb2 hp1.fr) (by omega))
  have t3 := Three.new (w.alloc (.cells #[.int .i64 0, .int .i64 0] 51)) (.int .i64 S) (.int .i64 P) (.int .i64 B) 23
  rw [size_alloc] at t3
  have HT3 := Lib.hid t3
  have hbb := h.inv.shp.b1
  have hbb2 := h.inv.shp.b2
  have hpp2 := h.inv.shp.p2
  have cpg := refPages_any n B ((w.alloc (.cells #[.int .i64 0, .int .i64 0] 51)).alloc (.cells #[.int .i64 S, .int .i64 P, .int .i64 B] 23)) hn (by omega) (by omega)
  have hpn : Fm.pages n B = Fm.pages l.length B := by rw [hln]
  have hKle := pages_le n hbb
  obtain ⟨rb0, cap0, hse, -⟩ := hp1.seen
  obtain ⟨c0, c1, c2, c3, c4, s0, s1, s2⟩ := hse
  obtain ⟨-, y0, y1, y2, -⟩ := t3
  obtain ⟨K, hK⟩ : ∃ K, K = Fm.pages n B := ⟨_, rfl⟩
  rw [← hK] at cpg hpn hKle
  have HKE := Lib.hid hpn
  have HKK : Hid (Fm.pages n B = K) := Lib.hid hK.symm
  have HGBW : Hid (gb < w.heap.size ∧ True) := Lib.hid ⟨by obtain ⟨rb, cap, h1, _⟩ := h.blk; exact h1.lt, trivial⟩
  have e1k := u8_one_eq kind
  have hw1 : IntKind.i64.wrap ((K : Int) + 1) = (K : Int) + 1 := IntWalk.i64_in _ (by omega)
  have he : perr P B kind l need g = 10 := by unfold perr; rw [if_neg hk, if_pos hlong]
  rw [decide_eq_false hk] at e1k
  have e4 : decide ((4096 : Int) < (n : Int)) = false := decide_eq_false (by omega)
  have e5 : decide ((P : Int) < (K : Int) + 1) = true := decide_eq_true (by omega)
  have e6 : (P : Int) < (K : Int) + 1 := by omega
  have HG : Hid (putG P B kind l need g = g ∧ putAt P B kind l need g = (0, 0)) := Lib.hid (by unfold putG putAt; rw [he, if_neg (by omega), if_neg (by omega)]; exact ⟨rfl, rfl⟩)
  have HE := Lib.hid he
  clear h hd hp1 hst1 hp2 hb2 hK
  clear he hpn hln hk hlong
  go_enter Try.func26, Try.ntmps26
  have hab := HAB1.out.kept (HB12.out.block _ HAB1.out.lt)
  have x0 := hab.c0
  have x1 := hab.c1
  have z0 := hab.f0
  have z1 := hab.f1
  go_wp2_with (go_at_call 50; (with_reducible refine cpg.mono ?_); rintro e w3 ⟨rfl, rfl⟩; clear cpg)
  exact bodyPost_ret (v := .tuple #[.agg #[.int .i64 0, .int .i64 0], .int .i64 10]) (by simp [results, Try.results26, go_sem]) rfl
    ⟨by rw [HG.out.2, HE.out], _, by rw [HG.out.1]; exact HP2.out, HMS1.out.step (k := 6) (by unfold Kr; omega) (Stp.below HB12.out HF1.out)⟩
set_option maxHeartbeats 8000000 in
theorem refPut_room (h : Rlg w v S P B gb xb g) (hd : Dt w v (.slice A n c) l) (hn : n ≤ 4096) (hneed : need ≤ 1000) (hx1 : 1 ≤ g.next) (hx : g.next < 900000) (hM : g.M.length ≤ 80000) (hr : refI P B kind l.length = 0) (hroom : room P B l.length g = true) :
    Calls Try.prog 26 #[.pointer (some ⟨gb, 0, none⟩), .int .u8 (kind.toNat : Int), .slice A n c, .int .i64 need] w (RefPutTo S P B gb xb kind l need g w v) := by
  have hln := (dt_bs9 hd).len
  obtain ⟨hp1, hst1⟩ := h.box (.cells #[.int .i64 0, .int .i64 0] 51) 6
  have HMS1 : Hid (Ms Kr w v (w.alloc (.cells #[.int .i64 0, .int .i64 0] 51)) (paint v w.heap.size 6)) := Lib.hid (Ms.one (k := 6) (by unfold Kr; omega) hst1)
  have HAB1 := Lib.hid (Ab.new w 0 0)
  have HVN : Hid (paint v w.heap.size 6 w.heap.size = 6) := Lib.hid (paint_same _ _ _)
  have hb2 := below_new4 (w.alloc (.cells #[.int .i64 0, .int .i64 0] 51)) (.cells #[.int .i64 S, .int .i64 P, .int .i64 B] 23)
  have hp2 := hp1.below hb2
  have HP2 := Lib.hid hp2
  have HB12 := Lib.hid hb2
  have HF1 := Lib.hid hp1.fr
  have HD2 : Hid (Dt ((w.alloc (.cells #[.int .i64 0, .int .i64 0] 51)).alloc (.cells #[.int .i64 S, .int .i64 P, .int .i64 B] 23)) (paint v w.heap.size 6) (.slice A n c) l) := Lib.hid (((Ms.one (K := fun k => k = 6) rfl hst1).dt hd (by omega)).stp (k := 9) (Stp.below hb2 hp1.fr) (by omega))
  have t3 := Three.new (w.alloc (.cells #[.int .i64 0, .int .i64 0] 51)) (.int .i64 S) (.int .i64 P) (.int .i64 B) 23
  rw [size_alloc] at t3
  have HT3 := Lib.hid t3
  have hbb := h.inv.shp.b1
  have hbb2 := h.inv.shp.b2
  have hpp2 := h.inv.shp.p2
  have cpg := refPages_any n B ((w.alloc (.cells #[.int .i64 0, .int .i64 0] 51)).alloc (.cells #[.int .i64 S, .int .i64 P, .int .i64 B] 23)) hn (by omega) (by omega)
  have hpn : Fm.pages n B = Fm.pages l.length B := by rw [hln]
  have hKle := pages_le n hbb
  obtain ⟨rb0, cap0, hse, -⟩ := hp1.seen
  obtain ⟨c0, c1, c2, c3, c4, s0, s1, s2⟩ := hse
  obtain ⟨-, y0, y1, y2, -⟩ := t3
  obtain ⟨K, hK⟩ : ∃ K, K = Fm.pages n B := ⟨_, rfl⟩
  rw [← hK] at cpg hpn hKle
  have HKE := Lib.hid hpn
  have HKK : Hid (Fm.pages n B = K) := Lib.hid hK.symm
  have HGBW : Hid (gb < w.heap.size ∧ True) := Lib.hid ⟨by obtain ⟨rb, cap, h1, _⟩ := h.blk; exact h1.lt, trivial⟩
  have e1k := u8_one_eq kind
  have hw1 : IntKind.i64.wrap ((K : Int) + 1) = (K : Int) + 1 := IntWalk.i64_in _ (by omega)
  have he : perr P B kind l need g = 0 := by rw [perr_of hr, if_pos hroom]
  have hrd : ready P B l.length g = g := by unfold ready; rw [if_pos hroom]
  have HG : Hid (putG P B kind l need g = laid B kind l g ∧ putAt P B kind l need g = (g.op, g.page)) := Lib.hid (by unfold putG putAt; rw [if_pos he, if_pos he, hrd]; exact ⟨rfl, rfl⟩)
  unfold room at hroom
  simp only [Bool.and_eq_true, decide_eq_true_eq] at hroom
  obtain ⟨h0, hfit⟩ := hroom
  rw [← hpn] at hfit
  have hkind := ref_zero hr
  rw [← hpn] at hkind
  obtain ⟨hkd, hlong⟩ := hkind
  rw [decide_eq_false hkd] at e1k
  have e4 : decide ((4096 : Int) < (n : Int)) = false := decide_eq_false (by omega)
  have e5 : decide ((P : Int) < (K : Int) + 1) = false := decide_eq_false (by omega)
  have e6 : ¬ (P : Int) < (K : Int) + 1 := by omega
  obtain ⟨o, ho⟩ : ∃ o, o = g.op := ⟨_, rfl⟩
  obtain ⟨pg, hpg⟩ : ∃ pg, pg = g.page := ⟨_, rfl⟩
  have hpg1 := (h.inv.someO h0).2.2.1
  have hpgP := (h.inv.someO h0).2.2.2
  have HIL := Lib.hid (h.inv.laid h0 kind l (by rw [← hpn]; exact hfit))
  have HBEH : Hid (∀ p : Int, pg ≤ p → lk g.M o p = none) := Lib.hid (by rw [ho, hpg]; exact h.inv.behind h0)
  have hoS : o < (S : Int) := by rw [ho]; exact h.inv.opS h0
  rw [← hpg] at hfit hpg1 hpgP
  rw [← ho] at h0
  have e7 : decide (o < 0) = false := decide_eq_false (by omega)
  have e8 : decide ((P : Int) < pg + (K : Int)) = false := decide_eq_false (by omega)
  have e9 : ¬ (P : Int) < pg + (K : Int) := by omega
  have hw2 : IntKind.i64.wrap (pg + (K : Int)) = pg + (K : Int) := IntWalk.i64_in _ (by omega)
  have HE := Lib.hid he
  have HOP := Lib.hid ho
  have HPG := Lib.hid hpg
  have HSEE : Hid (∀ W, Below ((w.alloc (.cells #[.int .i64 0, .int .i64 0] 51)).alloc (.cells #[.int .i64 S, .int .i64 P, .int .i64 B] 23)).heap.size ((w.alloc (.cells #[.int .i64 0, .int .i64 0] 51)).alloc (.cells #[.int .i64 S, .int .i64 P, .int .i64 B] 23)) W → W.cell? ⟨gb, 0, none⟩ = some (.pointer (some ⟨xb, 0, none⟩)) ∧ W.cell? ⟨gb, 2, none⟩ = some (.int .i64 o) ∧ W.cell? ⟨gb, 3, none⟩ = some (.int .i64 pg) ∧ W.cell? ⟨gb, 4, none⟩ = some (.int .u64 g.next) ∧ W.cell? ⟨w.heap.size + 1, 1, none⟩ = some (.int .i64 P)) := Lib.hid (by
    intro W hb
    obtain ⟨rb, cap, hs, -⟩ := (HP2.out.below hb).seen
    obtain ⟨-, -, q1, -⟩ := HT3.out.below hb
    exact ⟨hs.c0, by rw [ho]; exact hs.c2, by rw [hpg]; exact hs.c3, hs.c4, q1⟩)
  clear h hd hp1 hst1 hp2 hb2 hK
  clear he hr hrd hpn hln ho hpg c2 c3
  have c2 := (HSEE.out _ (Below.refl _ _)).2.1
  have c3 := (HSEE.out _ (Below.refl _ _)).2.2.1
  go_enter Try.func26, Try.ntmps26
  go_wp2_with (go_at_call 50; (with_reducible refine cpg.mono ?_); rintro e w3 ⟨rfl, rfl⟩; clear cpg)
  go_quiet (fail)
  have hb4 : Below ((w.alloc (.cells #[.int .i64 0, .int .i64 0] 51)).alloc (.cells #[.int .i64 S, .int .i64 P, .int .i64 B] 23)).heap.size ((w.alloc (.cells #[.int .i64 0, .int .i64 0] 51)).alloc (.cells #[.int .i64 S, .int .i64 P, .int .i64 B] 23)) (((w.alloc (.cells #[.int .i64 0, .int .i64 0] 51)).alloc (.cells #[.int .i64 S, .int .i64 P, .int .i64 B] 23)).drewN nq) := below_drewN (Below.refl _ _) nq
  have HB4 := Lib.hid hb4
  obtain ⟨W4, hW4⟩ : ∃ W4, W4 = ((w.alloc (.cells #[.int .i64 0, .int .i64 0] 51)).alloc (.cells #[.int .i64 S, .int .i64 P, .int .i64 B] 23)).drewN nq := ⟨_, rfl⟩
  rw [← hW4] at HB4 ⊢
  clear hb4 hW4 c0 c1 c2 c3 c4
  obtain ⟨vt, hvt⟩ : ∃ vt, vt = paint v w.heap.size 6 := ⟨_, rfl⟩
  have HPT : Hid (Rlg W4 vt S P B gb xb g) := Lib.hid (by rw [hvt]; exact HP2.out.below HB4.out)
  have HDT : Hid (Dt W4 vt (.slice A n c) l) := Lib.hid (by rw [hvt]; exact HD2.out.stp (k := 9) (Stp.below HB4.out HP2.out.fr) (by omega))
  have HAB9 : Hid (Ab W4 w.heap.size 0 0) := Lib.hid ((HAB1.out.kept (HB12.out.block _ HAB1.out.lt)).kept (HB4.out.block _ (Nat.lt_of_lt_of_le HAB1.out.lt HB12.out.size)))
  have HVN9 : Hid (vt w.heap.size = 6) := Lib.hid (by rw [hvt]; exact HVN.out)
  have HMT : Hid (Ms Kr w v W4 vt) := Lib.hid (by rw [hvt]; exact (HMS1.out.step (k := 6) (by unfold Kr; omega) (Stp.below HB12.out HF1.out)).step (k := 6) (by unfold Kr; omega) (Stp.below HB4.out HP2.out.fr))
  clear hvt
  obtain ⟨nx, hnx⟩ : ∃ nx, nx = g.next := ⟨_, rfl⟩
  have HO9 : Hid (o = g.op) := HOP
  have HP9 : Hid (pg = g.page) := HPG
  have HN9 := Lib.hid hnx
  have hnx1 : 1 ≤ nx := by omega
  have hnx2 : nx < 1000000 := by omega
  have HKE9 := HKE
  have HML9 : Hid (g.M.length ≤ 90000) := Lib.hid (by omega)
  clear hnx
  have HSEE4 : Hid (∀ W, Below W4.heap.size W4 W → W.cell? ⟨gb, 0, none⟩ = some (.pointer (some ⟨xb, 0, none⟩)) ∧ W.cell? ⟨gb, 2, none⟩ = some (.int .i64 o) ∧ W.cell? ⟨gb, 3, none⟩ = some (.int .i64 pg) ∧ W.cell? ⟨gb, 4, none⟩ = some (.int .u64 nx)) := Lib.hid (by
    intro W hb
    obtain ⟨rb, cap, hs, -⟩ := (HPT.out.below hb).seen
    exact ⟨hs.c0, by rw [HO9.out]; exact hs.c2, by rw [HP9.out]; exact hs.c3, by rw [HN9.out]; exact hs.c4⟩)
  have hb5 := below_new4 W4 (.cells #[.int .i64 0, .int .i64 0] 51)
  obtain ⟨m0, m2, m3, m4⟩ := HSEE4.out _ hb5
  obtain ⟨c0, c2, c3, c4⟩ := HSEE4.out _ (Below.refl _ _)
  clear hb5
  go_wp2
  go_region
  obtain ⟨W6, hW6⟩ : ∃ W6, W6 = (W4.alloc (.cells #[.int .i64 o, .int .i64 pg] 51)).drew := ⟨_, rfl⟩
  have hb6 : Below W4.heap.size W4 W6 := by rw [hW6]; exact (below_new4 _ _).drew
  have hab14 : Ab W6 W4.heap.size o pg := by rw [hW6]; exact Ab.new W4 o pg
  rw [← hW6]
  clear hW6 m0 m2 m3 m4 c0 c2 c3 c4
  have hbd : Below W4.heap.size W4 W6.drew := hb6.drew
  have HBD := Lib.hid hbd
  have HAB14 : Hid (Ab W6.drew W4.heap.size o pg) := Lib.hid hab14
  have HPD := Lib.hid (HPT.out.below hbd)
  have hsee6 := HSEE4.out _ hb6
  obtain ⟨c0, c2, c3, c4⟩ := hsee6
  have HP0 : Hid (W6.drew.cell? ⟨gb, 0, none⟩ = some (.pointer (some ⟨xb, 0, none⟩)) ∧ W6.drew.cell? ⟨gb, 2, none⟩ = some (.int .i64 o) ∧ W6.drew.cell? ⟨gb, 3, none⟩ = some (.int .i64 pg) ∧ W6.drew.cell? ⟨gb, 4, none⟩ = some (.int .u64 nx)) := Lib.hid (HSEE4.out _ hbd)
  obtain ⟨q, hq⟩ : ∃ q, q = nx - 1 := ⟨_, rfl⟩
  have hwq : IntKind.u64.wrap ((nx : Int) - 1) = (q : Int) := by rw [IntWalk.u64_in _ (by omega)]; omega
  have hq2 : q < 18446744073709551616 := by omega
  have hbs6 : Bs W6.drew W4.heap.size A n l := (dt_bs9 HDT.out).below hbd
  have hs16 : S ≤ 16 := HPT.out.inv.shp.s2
  have ca := refAppend_any HPD.out.rdv (by omega) o pg (WalkArith.wf_i64 (by omega)) ⟨h0, hoS⟩ (by omega) kind q hq2 A n c l W4.heap.size hbs6 hbd.size hn (by rw [HKK.out]; exact hfit) (fun p2 hp => HBEH.out p2 hp) HML9.out
  rw [HKK.out] at ca
  have HQ := Lib.hid hq
  have HS2 : Hid (S ≤ 16) := Lib.hid HPT.out.inv.shp.s2
  have hw2 : IntKind.i64.wrap (pg + (K : Int)) = pg + (K : Int) := IntWalk.i64_in _ (by omega)
  clear hbs6 hb6 hab14 hbd hq
  go_wp2
  go_region_held3 (fun W => W.cell? ⟨gb, 0, none⟩ = some (.pointer (some ⟨xb, 0, none⟩)) ∧ W.cell? ⟨gb, 2, none⟩ = some (.int .i64 o) ∧ W.cell? ⟨gb, 3, none⟩ = some (.int .i64 pg) ∧ W.cell? ⟨gb, 4, none⟩ = some (.int .u64 nx))
    (first | exact HP0.out | exact HP7.out)
    ((first | (go_at_call 51; (with_reducible refine ca.mono ?_); rintro e w7 ⟨rfl, v7, hR7, hS7⟩; have HR7 := Lib.hid hR7; have HS7 := Lib.hid hS7; obtain ⟨rb, cap, hgb, hrb, hvr, hne⟩ := HPD.out.blk; have HGB7 := Lib.hid (hgb.kept (hS7.block gb hgb.lt (by rw [HPD.out.vg]; omega))); have HRB7 := Lib.hid (hrb.kept (hS7.block rb hrb.lt (by rw [hvr]; omega))); have HVR := Lib.hid ((hS7.same rb hrb.lt).trans hvr); have HVG := Lib.hid ((hS7.same gb hgb.lt).trans HPD.out.vg); have HNE := Lib.hid hne; have HLT := Lib.hid (And.intro hgb.lt hrb.lt); have HP7 : Hid (w7.cell? ⟨gb, 0, none⟩ = some (.pointer (some ⟨xb, 0, none⟩)) ∧ w7.cell? ⟨gb, 2, none⟩ = some (.int .i64 o) ∧ w7.cell? ⟨gb, 3, none⟩ = some (.int .i64 pg) ∧ w7.cell? ⟨gb, 4, none⟩ = some (.int .u64 nx)) := Lib.hid (by obtain ⟨q0, -, q2, q3, q4⟩ := HGB7.out.c; exact ⟨q0, by rw [HO9.out]; exact q2, by rw [HP9.out]; exact q3, by rw [HN9.out]; exact q4⟩); clear ca hR7 hS7 hgb hrb hvr hne)))
  clear c0 c2 c3 c4
  have c3 := HP7.out.2.2.1
  have f3 := HGB7.out.f 3
  obtain ⟨W8, hW8⟩ : ∃ W8, W8 = w7.setCell ⟨gb, 3, none⟩ (.int .i64 (pg + (K : Int))) := ⟨_, rfl⟩
  have hgn : gb < w.heap.size := HGBW.out.1
  have hrn : w.heap.size ≠ rb := fun e => by
    have h6 := HVN9.out
    have h4 := HVR.out
    rw [HS7.out.same rb HLT.out.2] at h4
    rw [e] at h6
    omega
  have HNEG : Hid (w.heap.size ≠ gb) := Lib.hid (by omega)
  have HNER : Hid (w.heap.size ≠ rb) := Lib.hid hrn
  have hab8 : Ab w7 w.heap.size 0 0 := (HAB9.out.kept (HBD.out.block _ HAB9.out.lt)).kept (HS7.out.block _ (Nat.lt_of_lt_of_le HAB9.out.lt HBD.out.size) (by rw [HVN9.out]; omega))
  have hv14 : vt W4.heap.size = 0 := HPT.out.fr _ (Nat.le_refl _)
  have hab14 : Ab w7 W4.heap.size o pg := HAB14.out.kept (HS7.out.block _ HAB14.out.lt (by rw [hv14]; omega))
  have hN14 : W4.heap.size ≠ gb := fun e => by have := HLT.out.1; have h4 := HVG.out; rw [HS7.out.same gb HLT.out.1, ← e] at h4; omega
  have hx14 := hab14.other ⟨gb, 3, none⟩ (.int .i64 (pg + (K : Int))) hN14
  have hx8 := hab8.other ⟨gb, 3, none⟩ (.int .i64 (pg + (K : Int))) HNEG.out
  have x0 := hx14.c0
  have x1 := hx14.c1
  have z0 := hx8.c0
  have z1 := hx8.c1
  have z2 := hx8.f0
  have z3 := hx8.f1
  have HX8 := Lib.hid hx8
  have HPGK := Lib.hid (rfl : pg + (K : Int) = pg + (K : Int))
  clear hab8 hab14 hx14 hx8 hv14 hN14 hgn hrn
  go_wp2
  rw [← hW8]
  have hX8 : Ab W8 w.heap.size 0 0 := by rw [hW8]; exact HX8.out
  have hT := hX8.put o pg
  have r0 := hT.c0
  have r1 := hT.c1
  have sA : Stp 4 w7 W8 v7 v7 := by rw [hW8]; exact Stp.setCell (a := ⟨gb, 3, none⟩) HVG.out _ HR7.out.fr
  have hvn7 : v7 w.heap.size = 6 := by rw [HS7.out.same _ (Nat.lt_of_lt_of_le HAB9.out.lt HBD.out.size)]; exact HVN9.out
  have sL := box_last (k := 6) (x := o) (y := pg) hX8 sA.fresh hvn7
  have hgb8 : Gb W8 gb xb rb S cap g.op (pg + (K : Int)) g.next := by rw [hW8]; exact HGB7.out.setPage _
  have hrb8 : Rb W8 rb g.st := by rw [hW8]; exact HRB7.out.kept (Below.heap_setCell w7 ⟨gb, 3, none⟩ _ rb HNE.out)
  have hgb9 := hgb8.kept ((Below.heap_setCell _ ⟨w.heap.size, 1, none⟩ (.int .i64 pg) gb (Ne.symm HNEG.out)).trans (Below.heap_setCell W8 ⟨w.heap.size, 0, none⟩ (.int .i64 o) gb (Ne.symm HNEG.out)))
  have hrb9 := hrb8.kept ((Below.heap_setCell _ ⟨w.heap.size, 1, none⟩ (.int .i64 pg) rb (Ne.symm HNER.out)).trans (Below.heap_setCell W8 ⟨w.heap.size, 0, none⟩ (.int .i64 o) rb (Ne.symm HNER.out)))
  have hlm : laid B kind l (g) = ⟨(g).st, (g).op, pg + (K : Int), (g).next, app o pg B (Fm.frame kind q l) K (g).M⟩ := by
    unfold laid
    rw [← HKE9.out, HO9.out, HP9.out, HQ.out, HN9.out]
  exact bodyPost_ret (v := .tuple #[.agg #[.int .i64 o, .int .i64 pg], .int .i64 0]) (by simp [results, Try.results26, go_sem, r0, r1]) rfl
    ⟨by rw [HG.out.2, HE.out, HO9.out, HP9.out], v7, by rw [HG.out.1]; exact ⟨HIL.out, by rw [hlm]; exact (HR7.out.other sA (by omega) (by omega)).other sL (by omega) (by omega), HVG.out, rb, cap, by rw [hlm]; exact hgb9, hrb9, HVR.out, HNE.out⟩, (((HMT.out.step (k := 2) (by unfold Kr; omega) (Stp.below HBD.out HPT.out.fr)).step (k := 2) (by unfold Kr; omega) HS7.out).step (k := 4) (by unfold Kr; omega) sA).step (k := 6) (by unfold Kr; omega) sL⟩
set_option maxHeartbeats 8000000 in
theorem refPut_shut_full (h : Rlg w v S P B gb xb g) (hd : Dt w v (.slice A n c) l) (hn : n ≤ 4096) (hneed : need ≤ 1000) (hx1 : 1 ≤ g.next) (hx : g.next < 900000) (hM : g.M.length ≤ 80000) (hr : refI P B kind l.length = 0) (hop : g.op < 0) (hc : cnt 0 g.st < need) :
    Calls Try.prog 26 #[.pointer (some ⟨gb, 0, none⟩), .int .u8 (kind.toNat : Int), .slice A n c, .int .i64 need] w (RefPutTo S P B gb xb kind l need g w v) := by
  have hln := (dt_bs9 hd).len
  obtain ⟨hp1, hst1⟩ := h.box (.cells #[.int .i64 0, .int .i64 0] 51) 6
  have HMS1 : Hid (Ms Kr w v (w.alloc (.cells #[.int .i64 0, .int .i64 0] 51)) (paint v w.heap.size 6)) := Lib.hid (Ms.one (k := 6) (by unfold Kr; omega) hst1)
  have HAB1 := Lib.hid (Ab.new w 0 0)
  have HVN : Hid (paint v w.heap.size 6 w.heap.size = 6) := Lib.hid (paint_same _ _ _)
  have hb2 := below_new4 (w.alloc (.cells #[.int .i64 0, .int .i64 0] 51)) (.cells #[.int .i64 S, .int .i64 P, .int .i64 B] 23)
  have hp2 := hp1.below hb2
  have HP2 := Lib.hid hp2
  have HB12 := Lib.hid hb2
  have HF1 := Lib.hid hp1.fr
  have HD2 : Hid (Dt ((w.alloc (.cells #[.int .i64 0, .int .i64 0] 51)).alloc (.cells #[.int .i64 S, .int .i64 P, .int .i64 B] 23)) (paint v w.heap.size 6) (.slice A n c) l) := Lib.hid (((Ms.one (K := fun k => k = 6) rfl hst1).dt hd (by omega)).stp (k := 9) (Stp.below hb2 hp1.fr) (by omega))
  have t3 := Three.new (w.alloc (.cells #[.int .i64 0, .int .i64 0] 51)) (.int .i64 S) (.int .i64 P) (.int .i64 B) 23
  rw [size_alloc] at t3
  have HT3 := Lib.hid t3
  have hbb := h.inv.shp.b1
  have hbb2 := h.inv.shp.b2
  have hpp2 := h.inv.shp.p2
  have cpg := refPages_any n B ((w.alloc (.cells #[.int .i64 0, .int .i64 0] 51)).alloc (.cells #[.int .i64 S, .int .i64 P, .int .i64 B] 23)) hn (by omega) (by omega)
  have hpn : Fm.pages n B = Fm.pages l.length B := by rw [hln]
  have hKle := pages_le n hbb
  obtain ⟨rb0, cap0, hse, -⟩ := hp1.seen
  obtain ⟨c0, c1, c2, c3, c4, s0, s1, s2⟩ := hse
  obtain ⟨-, y0, y1, y2, -⟩ := t3
  obtain ⟨K, hK⟩ : ∃ K, K = Fm.pages n B := ⟨_, rfl⟩
  rw [← hK] at cpg hpn hKle
  have HKE := Lib.hid hpn
  have HKK : Hid (Fm.pages n B = K) := Lib.hid hK.symm
  have HGBW : Hid (gb < w.heap.size ∧ True) := Lib.hid ⟨by obtain ⟨rb, cap, h1, _⟩ := h.blk; exact h1.lt, trivial⟩
  have e1k := u8_one_eq kind
  have hw1 : IntKind.i64.wrap ((K : Int) + 1) = (K : Int) + 1 := IntWalk.i64_in _ (by omega)
  have hroom : room P B l.length g = false := by unfold room; rw [decide_eq_false (by omega)]; rfl
  have he : perr P B kind l need g = 5 := by rw [perr_of hr, if_neg (by rw [hroom]; exact Bool.false_ne_true), if_pos hc]
  have HG : Hid (putG P B kind l need g = g ∧ putAt P B kind l need g = (0, 0)) := Lib.hid (by unfold putG putAt; rw [he, if_neg (by omega), if_neg (by omega)]; exact ⟨rfl, rfl⟩)
  have hkind := ref_zero hr
  rw [← hpn] at hkind
  obtain ⟨hkd, hlong⟩ := hkind
  rw [decide_eq_false hkd] at e1k
  have e4 : decide ((4096 : Int) < (n : Int)) = false := decide_eq_false (by omega)
  have e5 : decide ((P : Int) < (K : Int) + 1) = false := decide_eq_false (by omega)
  have e6 : ¬ (P : Int) < (K : Int) + 1 := by omega
  obtain ⟨o0, ho0⟩ : ∃ o0, o0 = g.op := ⟨_, rfl⟩
  obtain ⟨pg0, hpg0⟩ : ∃ pg0, pg0 = g.page := ⟨_, rfl⟩
  rw [← ho0] at hop
  have e7 : decide (o0 < 0) = true := decide_eq_true hop
  have hcn : decide ((cnt 0 g.st : Int) < (need : Int)) = true := decide_eq_true (by omega)
  have hcn2 : decide (cnt 0 g.st < need) = true := decide_eq_true (by omega)
  have HE := Lib.hid he
  have HOP := Lib.hid ho0
  have HPG := Lib.hid hpg0
  have HSEE : Hid (∀ W, Below ((w.alloc (.cells #[.int .i64 0, .int .i64 0] 51)).alloc (.cells #[.int .i64 S, .int .i64 P, .int .i64 B] 23)).heap.size ((w.alloc (.cells #[.int .i64 0, .int .i64 0] 51)).alloc (.cells #[.int .i64 S, .int .i64 P, .int .i64 B] 23)) W → W.cell? ⟨gb, 2, none⟩ = some (.int .i64 o0) ∧ W.cell? ⟨gb, 3, none⟩ = some (.int .i64 pg0)) := Lib.hid (by
    intro W hb
    obtain ⟨rb, cap, hs, -⟩ := (HP2.out.below hb).seen
    exact ⟨by rw [ho0]; exact hs.c2, by rw [hpg0]; exact hs.c3⟩)
  clear h hd hp1 hst1 hp2 hb2 hK
  clear he hr hpn hln ho0 hpg0 c2 c3 hroom hkd hlong
  have c2 := (HSEE.out _ (Below.refl _ _)).1
  have c3 := (HSEE.out _ (Below.refl _ _)).2
  go_enter Try.func26, Try.ntmps26
  go_wp2_with (go_at_call 50; (with_reducible refine cpg.mono ?_); rintro e w3 ⟨rfl, rfl⟩; clear cpg)
  go_quiet (fail)
  have hb4 : Below ((w.alloc (.cells #[.int .i64 0, .int .i64 0] 51)).alloc (.cells #[.int .i64 S, .int .i64 P, .int .i64 B] 23)).heap.size ((w.alloc (.cells #[.int .i64 0, .int .i64 0] 51)).alloc (.cells #[.int .i64 S, .int .i64 P, .int .i64 B] 23)) (((w.alloc (.cells #[.int .i64 0, .int .i64 0] 51)).alloc (.cells #[.int .i64 S, .int .i64 P, .int .i64 B] 23)).drewN nq) := below_drewN (Below.refl _ _) nq
  have HB4 := Lib.hid hb4
  obtain ⟨Wq, hWq⟩ : ∃ Wq, Wq = ((w.alloc (.cells #[.int .i64 0, .int .i64 0] 51)).alloc (.cells #[.int .i64 S, .int .i64 P, .int .i64 B] 23)).drewN nq := ⟨_, rfl⟩
  rw [← hWq] at HB4 ⊢
  clear hb4 hWq c0 c1 c2 c3 c4
  obtain ⟨vq, hvq⟩ : ∃ vq, vq = paint v w.heap.size 6 := ⟨_, rfl⟩
  have HPQ : Hid (Rlg Wq vq S P B gb xb g) := Lib.hid (by rw [hvq]; exact HP2.out.below HB4.out)
  have HDQ : Hid (Dt Wq vq (.slice A n c) l) := Lib.hid (by rw [hvq]; exact HD2.out.stp (k := 9) (Stp.below HB4.out HP2.out.fr) (by omega))
  have HABQ : Hid (Ab Wq w.heap.size 0 0) := Lib.hid ((HAB1.out.kept (HB12.out.block _ HAB1.out.lt)).kept (HB4.out.block _ (Nat.lt_of_lt_of_le HAB1.out.lt HB12.out.size)))
  have HVNQ : Hid (vq w.heap.size = 6) := Lib.hid (by rw [hvq]; exact HVN.out)
  have HMQ : Hid (Ms Kr w v Wq vq) := Lib.hid (by rw [hvq]; exact (HMS1.out.step (k := 6) (by unfold Kr; omega) (Stp.below HB12.out HF1.out)).step (k := 6) (by unfold Kr; omega) (Stp.below HB4.out HP2.out.fr))
  clear hvq
  have cc := refCount_any HPQ.out 0
  obtain ⟨y, hy⟩ : ∃ y, y = cnt 0 g.st := ⟨_, rfl⟩
  rw [← hy] at cc hcn hcn2
  clear hy
  have x0 := HABQ.out.c0
  have x1 := HABQ.out.c1
  have z0 := HABQ.out.f0
  have z1 := HABQ.out.f1
  go_wp2_with (go_at_call 15; (with_reducible refine cc.mono ?_); rintro e w5 ⟨rfl, rfl⟩; clear cc)
  have hT := HABQ.out.put 0 0
  have r0 := hT.c0
  have r1 := hT.c1
  have sL := box_last (k := 6) (x := 0) (y := 0) HABQ.out HPQ.out.fr HVNQ.out
  exact bodyPost_ret (v := .tuple #[.agg #[.int .i64 0, .int .i64 0], .int .i64 5]) (by simp [results, Try.results26, go_sem, r0, r1]) rfl
    ⟨by rw [HG.out.2, HE.out], _, by rw [HG.out.1]; exact HPQ.out.ms (K := fun k => k = 6) (Ms.one (k := 6) rfl sL) (by omega) (by omega) (by omega), HMQ.out.step (k := 6) (by unfold Kr; omega) sL⟩
set_option maxHeartbeats 8000000 in
theorem refPut_shut_new (h : Rlg w v S P B gb xb g) (hd : Dt w v (.slice A n c) l) (hn : n ≤ 4096) (hneed : need ≤ 1000) (hx1 : 1 ≤ g.next) (hx : g.next < 900000) (hM : g.M.length ≤ 80000) (hr : refI P B kind l.length = 0) (hop : g.op < 0) (hc : ¬ cnt 0 g.st < need) (hneed1 : 1 ≤ need) :
    Calls Try.prog 26 #[.pointer (some ⟨gb, 0, none⟩), .int .u8 (kind.toNat : Int), .slice A n c, .int .i64 need] w (RefPutTo S P B gb xb kind l need g w v) := by
  have hln := (dt_bs9 hd).len
  obtain ⟨hp1, hst1⟩ := h.box (.cells #[.int .i64 0, .int .i64 0] 51) 6
  have HMS1 : Hid (Ms Kr w v (w.alloc (.cells #[.int .i64 0, .int .i64 0] 51)) (paint v w.heap.size 6)) := Lib.hid (Ms.one (k := 6) (by unfold Kr; omega) hst1)
  have HAB1 := Lib.hid (Ab.new w 0 0)
  have HVN : Hid (paint v w.heap.size 6 w.heap.size = 6) := Lib.hid (paint_same _ _ _)
  have hb2 := below_new4 (w.alloc (.cells #[.int .i64 0, .int .i64 0] 51)) (.cells #[.int .i64 S, .int .i64 P, .int .i64 B] 23)
  have hp2 := hp1.below hb2
  have HP2 := Lib.hid hp2
  have HB12 := Lib.hid hb2
  have HF1 := Lib.hid hp1.fr
  have HD2 : Hid (Dt ((w.alloc (.cells #[.int .i64 0, .int .i64 0] 51)).alloc (.cells #[.int .i64 S, .int .i64 P, .int .i64 B] 23)) (paint v w.heap.size 6) (.slice A n c) l) := Lib.hid (((Ms.one (K := fun k => k = 6) rfl hst1).dt hd (by omega)).stp (k := 9) (Stp.below hb2 hp1.fr) (by omega))
  have t3 := Three.new (w.alloc (.cells #[.int .i64 0, .int .i64 0] 51)) (.int .i64 S) (.int .i64 P) (.int .i64 B) 23
  rw [size_alloc] at t3
  have HT3 := Lib.hid t3
  have hbb := h.inv.shp.b1
  have hbb2 := h.inv.shp.b2
  have hpp2 := h.inv.shp.p2
  have cpg := refPages_any n B ((w.alloc (.cells #[.int .i64 0, .int .i64 0] 51)).alloc (.cells #[.int .i64 S, .int .i64 P, .int .i64 B] 23)) hn (by omega) (by omega)
  have hpn : Fm.pages n B = Fm.pages l.length B := by rw [hln]
  have hKle := pages_le n hbb
  obtain ⟨rb0, cap0, hse, -⟩ := hp1.seen
  obtain ⟨c0, c1, c2, c3, c4, s0, s1, s2⟩ := hse
  obtain ⟨-, y0, y1, y2, -⟩ := t3
  obtain ⟨K, hK⟩ : ∃ K, K = Fm.pages n B := ⟨_, rfl⟩
  rw [← hK] at cpg hpn hKle
  have HKE := Lib.hid hpn
  have HKK : Hid (Fm.pages n B = K) := Lib.hid hK.symm
  have HGBW : Hid (gb < w.heap.size ∧ True) := Lib.hid ⟨by obtain ⟨rb, cap, h1, _⟩ := h.blk; exact h1.lt, trivial⟩
  have e1k := u8_one_eq kind
  have hw1 : IntKind.i64.wrap ((K : Int) + 1) = (K : Int) + 1 := IntWalk.i64_in _ (by omega)
  have hroom : room P B l.length g = false := by unfold room; rw [decide_eq_false (by omega)]; rfl
  have he : perr P B kind l need g = 0 := by rw [perr_of hr, if_neg (by rw [hroom]; exact Bool.false_ne_true), if_neg hc]
  have hrd : ready P B l.length g = opened B g := by unfold ready; rw [if_neg (by rw [hroom]; exact Bool.false_ne_true)]
  have hrdy := perr_ready h.inv hneed1 he
  rw [hrd] at hrdy
  obtain ⟨hI2, ho2, hf2⟩ := hrdy
  have HG : Hid (putG P B kind l need g = laid B kind l (opened B g) ∧ putAt P B kind l need g = ((opened B g).op, (opened B g).page)) := Lib.hid (by unfold putG putAt; rw [if_pos he, if_pos he, hrd]; exact ⟨rfl, rfl⟩)
  have HIL := Lib.hid (hI2.laid ho2 kind l hf2)
  have HI2 := Lib.hid hI2
  have HF2 : Hid ((1 : Int) + (Fm.pages l.length B : Int) ≤ (P : Int)) := Lib.hid hf2
  have hcc : 0 < cnt 0 g.st := by omega
  have hjxS := h.inv.ixS hcc
  obtain ⟨hjx0, hjxb⟩ := ix_at hcc
  obtain ⟨jx, hjx⟩ : ∃ jx, jx = ix 0 g.st := ⟨_, rfl⟩
  rw [← hjx] at hjxS hjx0 hjxb
  have HJX := Lib.hid hjx
  have HFREE := Lib.hid (h.inv.free _ hjx0)
  have HS0 : Hid ((sealG g).st[jx]? = some 0) := Lib.hid ((h.inv.sealed0 jx).2 hjx0)
  have HSB : Hid (∀ j : Nat, j < jx → (sealG g).st[j]? ≠ some 0) := Lib.hid (fun j hj hc2 => hjxb j hj ((h.inv.sealed0 j).1 hc2))
  have HSLEN : Hid ((sealG g).st.length = S) := Lib.hid h.inv.sealG.len
  have hjx16 : jx < 16 := by have := h.inv.shp.s2; omega
  have hkind := ref_zero hr
  rw [← hpn] at hkind
  obtain ⟨hkd, hlong⟩ := hkind
  rw [decide_eq_false hkd] at e1k
  have e4 : decide ((4096 : Int) < (n : Int)) = false := decide_eq_false (by omega)
  have e5 : decide ((P : Int) < (K : Int) + 1) = false := decide_eq_false (by omega)
  have e6 : ¬ (P : Int) < (K : Int) + 1 := by omega
  obtain ⟨o0, ho0⟩ : ∃ o0, o0 = g.op := ⟨_, rfl⟩
  obtain ⟨pg0, hpg0⟩ : ∃ pg0, pg0 = g.page := ⟨_, rfl⟩
  rw [← ho0] at hop
  have e7 : decide (o0 < 0) = true := decide_eq_true hop
  have hcn : decide ((cnt 0 g.st : Int) < (need : Int)) = false := decide_eq_false (by omega)
  have hcn2 : decide (cnt 0 g.st < need) = false := decide_eq_false (by omega)
  have HE := Lib.hid he
  have HOP := Lib.hid ho0
  have HPG := Lib.hid hpg0
  have HSEE : Hid (∀ W, Below ((w.alloc (.cells #[.int .i64 0, .int .i64 0] 51)).alloc (.cells #[.int .i64 S, .int .i64 P, .int .i64 B] 23)).heap.size ((w.alloc (.cells #[.int .i64 0, .int .i64 0] 51)).alloc (.cells #[.int .i64 S, .int .i64 P, .int .i64 B] 23)) W → W.cell? ⟨gb, 2, none⟩ = some (.int .i64 o0) ∧ W.cell? ⟨gb, 3, none⟩ = some (.int .i64 pg0)) := Lib.hid (by
    intro W hb
    obtain ⟨rb, cap, hs, -⟩ := (HP2.out.below hb).seen
    exact ⟨by rw [ho0]; exact hs.c2, by rw [hpg0]; exact hs.c3⟩)
  clear h hd hp1 hst1 hp2 hb2 hK
  clear he hr hpn hln ho0 hpg0 c2 c3 hroom hkd hlong hrd hI2 ho2 hf2 hjx0 hjxb hjx
  have c2 := (HSEE.out _ (Below.refl _ _)).1
  have c3 := (HSEE.out _ (Below.refl _ _)).2
  go_enter Try.func26, Try.ntmps26
  go_wp2_with (go_at_call 50; (with_reducible refine cpg.mono ?_); rintro e w3 ⟨rfl, rfl⟩; clear cpg)
  go_quiet (fail)
  have hb4 : Below ((w.alloc (.cells #[.int .i64 0, .int .i64 0] 51)).alloc (.cells #[.int .i64 S, .int .i64 P, .int .i64 B] 23)).heap.size ((w.alloc (.cells #[.int .i64 0, .int .i64 0] 51)).alloc (.cells #[.int .i64 S, .int .i64 P, .int .i64 B] 23)) (((w.alloc (.cells #[.int .i64 0, .int .i64 0] 51)).alloc (.cells #[.int .i64 S, .int .i64 P, .int .i64 B] 23)).drewN nq) := below_drewN (Below.refl _ _) nq
  have HB4 := Lib.hid hb4
  obtain ⟨Wq, hWq⟩ : ∃ Wq, Wq = ((w.alloc (.cells #[.int .i64 0, .int .i64 0] 51)).alloc (.cells #[.int .i64 S, .int .i64 P, .int .i64 B] 23)).drewN nq := ⟨_, rfl⟩
  rw [← hWq] at HB4 ⊢
  clear hb4 hWq c0 c1 c2 c3 c4
  obtain ⟨vq, hvq⟩ : ∃ vq, vq = paint v w.heap.size 6 := ⟨_, rfl⟩
  have HPQ : Hid (Rlg Wq vq S P B gb xb g) := Lib.hid (by rw [hvq]; exact HP2.out.below HB4.out)
  have HDQ : Hid (Dt Wq vq (.slice A n c) l) := Lib.hid (by rw [hvq]; exact HD2.out.stp (k := 9) (Stp.below HB4.out HP2.out.fr) (by omega))
  have HABQ : Hid (Ab Wq w.heap.size 0 0) := Lib.hid ((HAB1.out.kept (HB12.out.block _ HAB1.out.lt)).kept (HB4.out.block _ (Nat.lt_of_lt_of_le HAB1.out.lt HB12.out.size)))
  have HVNQ : Hid (vq w.heap.size = 6) := Lib.hid (by rw [hvq]; exact HVN.out)
  have HMQ : Hid (Ms Kr w v Wq vq) := Lib.hid (by rw [hvq]; exact (HMS1.out.step (k := 6) (by unfold Kr; omega) (Stp.below HB12.out HF1.out)).step (k := 6) (by unfold Kr; omega) (Stp.below HB4.out HP2.out.fr))
  clear hvq
  have cc := refCount_any HPQ.out 0
  obtain ⟨y, hy⟩ : ∃ y, y = cnt 0 g.st := ⟨_, rfl⟩
  rw [← hy] at cc hcn hcn2
  clear hy
  have cse := refLseal_any HPQ.out
  have hS16 : S ≤ 16 := HPQ.out.inv.shp.s2
  go_wp2_with (first
    | (go_at_call 15; (with_reducible refine cc.mono ?_); rintro e w5 ⟨rfl, rfl⟩; clear cc)
    | (go_at_call 30; (with_reducible refine cse.mono ?_); rintro e w6 ⟨rfl, hP6, hS6⟩; have HP6 := Lib.hid hP6; have HS6 := Lib.hid hS6; obtain ⟨rb, cap, hgb, hrb, hvr, hne⟩ := hP6.blk; have HGB6 := Lib.hid hgb; have HRB6 := Lib.hid hrb; have HVR6 := Lib.hid hvr; have HNE := Lib.hid hne; obtain ⟨d0, d1, -⟩ := hgb.c; clear cse hP6 hS6 hgb hrb hvr hne))
  have HVG6 := Lib.hid HP6.out.vg
  go_loopw [12, 13, 69] (fun _ _ i wr => ∃ (j : Nat) (o2 : Int), j ≤ S ∧ i = .int .i64 j ∧ Hid (o2 = if jx < j then (jx : Int) else -1) ∧ Hid (Gb wr gb xb rb S cap o2 0 g.next) ∧ Hid (Rb wr rb (sealG g).st) ∧ Hid (Stp 4 w6 wr vq vq)) (fun _ _ i _ => S - (intOf i).toNat)
  case atStart => exact ⟨0, -1, Nat.zero_le _, rfl, Lib.hid (by rw [if_neg (by omega)]), HGB6, HRB6, Lib.hid (Stp.refl HP6.out.fr)⟩
  case round =>
    obtain ⟨j, o2, hj, rfl, HO2, HGBr, HRBr, HSr⟩ := hrel
    obtain ⟨g0c, g1c, g2c, g3c, g4c⟩ := HGBr.out.c
    by_cases hlt : j < S
    · have hjl : j < (sealG g).st.length := by rw [HSLEN.out]; exact hlt
      have HQ0 := Lib.hid (List.getElem?_eq_getElem hjl)
      generalize (sealG g).st[j] = y0 at HQ0
      have cy := HRBr.out.c HQ0.out
      have hltI : (j : Int) < (S : Int) := by omega
      clear hjl
      by_cases hy0 : y0 = 0
      · subst hy0
        by_cases hjj : jx < j
        · have ho2 : o2 = (jx : Int) := by have := HO2.out; rwa [if_pos hjj] at this
          subst ho2
          have e10 : decide ((jx : Int) < 0) = false := decide_eq_false (by omega)
          go_wp2
          go_roundw
          case rel => exact ⟨j + 1, (jx : Int), by omega, by go_num, Lib.hid (by rw [if_pos (by omega)]), HGBr, HRBr, HSr⟩
          case measure => simp [intOf]; omega
        · have ho2 : o2 = -1 := by have := HO2.out; rwa [if_neg hjj] at this
          subst ho2
          have hjeq : jx = j := by
            rcases Nat.lt_or_ge j jx with h9 | h9
            · exact absurd HQ0.out (HSB.out j h9)
            · omega
          have f2 := HGBr.out.f 2
          go_wp2
          go_roundw
          case rel =>
            refine ⟨j + 1, (j : Int), by omega, by go_num, Lib.hid (by rw [if_pos (by omega), hjeq]), Lib.hid (HGBr.out.setOp _), Lib.hid (HRBr.out.kept (Below.heap_setCell _ ⟨gb, 2, none⟩ _ rb HNE.out)), Lib.hid (HSr.out.trans (Stp.setCell (a := ⟨gb, 2, none⟩) HVG6.out _ HSr.out.fresh))⟩
          case measure => simp [intOf]; omega
      · have hyb : (y0 == 0) = false := by rw [beq_eq_false_iff_ne]; exact hy0
        have HNJ : Hid (jx ≠ j) := Lib.hid (fun e => by
          have h9 := HS0.out
          rw [e, HQ0.out] at h9
          injection h9 with h9
          exact hy0 h9)
        clear hy0
        go_wp2
        go_roundw
        case rel => exact ⟨j + 1, o2, by omega, by go_num, Lib.hid (by have := HO2.out; have := HNJ.out; rw [HO2.out]; by_cases h9 : jx < j <;> simp [h9] <;> omega), HGBr, HRBr, HSr⟩
        case measure => simp [intOf]; omega
    · obtain rfl : j = S := by omega
      have ho2 : o2 = (jx : Int) := by have := HO2.out; rwa [if_pos hjxS] at this
      subst ho2
      have hjxI : (jx : Int) < (j : Int) := by omega
      have cy := HRBr.out.c HS0.out
      have fy := HRBr.out.f jx
      go_wp2
      go_region
      have hz8 : Stp 4 wr (wr.setCell ⟨rb, jx, none⟩ (.int .i64 1)).drew vq vq := (Stp.setCell (a := ⟨rb, jx, none⟩) HVR6.out _ HSr.out.fresh).drew
      have hgb8 : Gb (wr.setCell ⟨rb, jx, none⟩ (.int .i64 1)).drew gb xb rb j cap (jx : Int) 0 g.next := HGBr.out.kept (Below.heap_setCell wr ⟨rb, jx, none⟩ _ gb (Ne.symm HNE.out))
      have hrb8 : Rb (wr.setCell ⟨rb, jx, none⟩ (.int .i64 1)).drew rb ((sealG g).st.set jx 1) := HRBr.out.set (by rw [HSLEN.out]; exact hjxS) 1
      have HS8 := Lib.hid hz8
      have HGB8 := Lib.hid hgb8
      have HRB8 := Lib.hid hrb8
      clear hz8 hgb8 hrb8 g0c g1c g2c g3c g4c cy fy
      obtain ⟨w8, hw8⟩ : ∃ w8, w8 = (wr.setCell ⟨rb, jx, none⟩ (.int .i64 1)).drew := ⟨_, rfl⟩
      rw [← hw8] at HS8 HGB8 HRB8 ⊢
      clear hw8
      have HS8d : Hid (Stp 4 w6 w8.drew vq vq) := Lib.hid (HSr.out.trans HS8.out.drew)
      have HR8 : Hid (Rdv w8.drew vq 2 j P B xb g.M) := Lib.hid (HP6.out.rdv.other HS8d.out (by omega) (by omega))
      obtain ⟨g0c, -, g2c, g3c, g4c⟩ := HGB8.out.c
      have HP0 : Hid (w8.drew.cell? ⟨gb, 0, none⟩ = some (.pointer (some ⟨xb, 0, none⟩)) ∧ w8.drew.cell? ⟨gb, 2, none⟩ = some (.int .i64 (jx : Int)) ∧ w8.drew.cell? ⟨gb, 4, none⟩ = some (.int .u64 g.next)) := Lib.hid ⟨g0c, g2c, g4c⟩
      have hKh : Fm.pages 0 B = 1 := pages_head hbb
      have hp11 : 1 ≤ P := HPQ.out.inv.shp.p1
      have ca0 : Calls Try.prog 51 #[.pointer (some ⟨xb, 0, none⟩), .int .i64 (jx : Int), .int .i64 0, .int .u64 g.next, .int .u8 1, .slice none 0 0] w8.drew (RefAppendTo 2 j P B xb (app (jx : Int) 0 B (Fm.frame 1 g.next []) (Fm.pages 0 B) g.M) (Fm.pages 0 B) w8.drew vq) :=
        refAppend_any HR8.out (by omega) (jx : Int) 0 (WalkArith.wf_i64 (by omega)) ⟨by omega, hjxI⟩ (by omega) 1 g.next (by omega) none 0 0 [] 0 (Bs.nil _ _ _) (Nat.zero_le _) (by omega) (by rw [hKh]; omega) (fun p2 _ => HFREE.out p2) (by omega)
      rw [hKh] at ca0
      go_wp2
      go_region_held3 (fun W => W.cell? ⟨gb, 0, none⟩ = some (.pointer (some ⟨xb, 0, none⟩)) ∧ W.cell? ⟨gb, 2, none⟩ = some (.int .i64 (jx : Int)) ∧ W.cell? ⟨gb, 4, none⟩ = some (.int .u64 g.next))
        (first | exact HP0.out | exact HP9.out)
        ((first | (go_at_call 51; (with_reducible refine ca0.mono ?_); rintro e w9 ⟨rfl, v9, hR9, hS9⟩; have HR9 := Lib.hid hR9; have HS9 := Lib.hid hS9; have HGB9 := Lib.hid (Gb.kept (w := w8.drew) HGB8.out (hS9.block gb (by exact HGB8.out.lt) (by rw [HVG6.out]; omega))); have HRB9 := Lib.hid (Rb.kept (w := w8.drew) HRB8.out (hS9.block rb (by exact HRB8.out.lt) (by rw [HVR6.out]; omega))); have HVG9 := Lib.hid ((hS9.same gb (by exact HGB8.out.lt)).trans HVG6.out); have HVR9 := Lib.hid ((hS9.same rb (by exact HRB8.out.lt)).trans HVR6.out); have HP9 : Hid (w9.cell? ⟨gb, 0, none⟩ = some (.pointer (some ⟨xb, 0, none⟩)) ∧ w9.cell? ⟨gb, 2, none⟩ = some (.int .i64 (jx : Int)) ∧ w9.cell? ⟨gb, 4, none⟩ = some (.int .u64 g.next)) := Lib.hid (by obtain ⟨q0, -, q2, -, q4⟩ := HGB9.out.c; exact ⟨q0, q2, q4⟩); clear ca0 hR9 hS9)))
      clear g0c g2c g3c g4c
      obtain ⟨-, -, -, c3, c4⟩ := HGB9.out.c
      have f3 := HGB9.out.f 3
      have f4 := HGB9.out.f 4
      have hwn : IntKind.u64.wrap ((g.next : Int) + 1) = ((g.next + 1 : Nat) : Int) := by rw [IntWalk.u64_in _ (by omega)]; omega
      go_wp2
      obtain ⟨W4, hW4⟩ : ∃ W4, W4 = (w9.setCell ⟨gb, 3, none⟩ (.int .i64 1)).setCell ⟨gb, 4, none⟩ (.int .u64 ((g.next : Int) + 1)) := ⟨_, rfl⟩
      have hsA : Stp 4 w9 (w9.setCell ⟨gb, 3, none⟩ (.int .i64 1)) v9 v9 := Stp.setCell (a := ⟨gb, 3, none⟩) HVG9.out _ HR9.out.fr
      have hsB : Stp 4 w9 W4 v9 v9 := by rw [hW4]; exact hsA.trans (Stp.setCell (a := ⟨gb, 4, none⟩) HVG9.out _ hsA.fresh)
      have hgb4 : Gb W4 gb xb rb j cap (jx : Int) 1 (g.next + 1) := by rw [hW4]; exact (HGB9.out.setPage 1).setNext (g.next + 1)
      have hrb4 : Rb W4 rb ((sealG g).st.set jx 1) := by rw [hW4]; exact HRB9.out.kept ((Below.heap_setCell _ ⟨gb, 4, none⟩ _ rb HNE.out).trans (Below.heap_setCell w9 ⟨gb, 3, none⟩ _ rb HNE.out))
      have hmq : Ms K24 Wq vq W4 v9 := ((((Ms.one (k := 4) (by unfold K24; omega) HS6.out).step (k := 4) (by unfold K24; omega) HS8d.out).step (k := 2) (by unfold K24; omega) HS9.out).step (k := 4) (by unfold K24; omega) hsB)
      have HMQ4 := Lib.hid hmq
      obtain ⟨vt, hvt⟩ : ∃ vt, vt = v9 := ⟨_, rfl⟩
      have HPT : Hid (Rlg W4 vt j P B gb xb (opened B g)) := Lib.hid (by
        rw [hvt]
        refine ⟨HI2.out, ?_, HVG9.out, rb, cap, ?_, ?_, HVR9.out, HNE.out⟩
        · show Rdv W4 v9 2 j P B xb (app (ix 0 g.st : Int) 0 B (Fm.frame 1 g.next []) 1 g.M)
          rw [← HJX.out]
          exact HR9.out.other hsB (by omega) (by omega)
        · show Gb W4 gb xb rb j cap (ix 0 g.st : Int) 1 (g.next + 1)
          rw [← HJX.out]
          exact hgb4
        · show Rb W4 rb ((sealG g).st.set (ix 0 g.st) 1)
          rw [← HJX.out]
          exact hrb4)
      have HDT : Hid (Dt W4 vt (.slice A n c) l) := Lib.hid (by rw [hvt]; exact hmq.dt HDQ.out (by unfold K24; omega))
      have HAB9 : Hid (Ab W4 w.heap.size 0 0) := Lib.hid (HABQ.out.ms hmq (by rw [HVNQ.out]; unfold K24; omega))
      have HVN9 : Hid (vt w.heap.size = 6) := Lib.hid (by rw [hvt, hmq.same HABQ.out.lt]; exact HVNQ.out)
      have HMT : Hid (Ms Kr w v W4 vt) := Lib.hid (by rw [hvt]; exact HMQ.out.trans (hmq.mono k24_r))
      clear hvt hmq hsA hsB hgb4 hrb4 c3 c4 f3 f4 HR9 HS9 HGB9 HRB9 HVG9 HVR9 HP9 HS8 HGB8 HRB8 HR8 HP0 HGBr HRBr HSr HO2 HGB6 HRB6 HVR6 HVG6 HNE
      rw [← hW4]
      clear hW4
      obtain ⟨o, ho⟩ : ∃ o : Int, o = (jx : Int) := ⟨_, rfl⟩
      obtain ⟨pg, hpg⟩ : ∃ pg : Int, pg = 1 := ⟨_, rfl⟩
      obtain ⟨nx, hnx⟩ : ∃ nx, nx = g.next + 1 := ⟨_, rfl⟩
      have HO9 : Hid (o = (opened B g).op) := Lib.hid (by rw [ho, HJX.out]; rfl)
      have HP9 : Hid (pg = (opened B g).page) := Lib.hid hpg
      have HN9 : Hid (nx = (opened B g).next) := Lib.hid hnx
      have hnx1 : 1 ≤ nx := by omega
      have hnx2 : nx < 1000000 := by omega
      have HKE9 := HKE
      have HML9 : Hid ((opened B g).M.length ≤ 90000) := Lib.hid (by rw [opened_length]; omega)
      have h0 : 0 ≤ o := by omega
      have hoS : o < (j : Int) := by omega
      have hfit : pg + (K : Int) ≤ (P : Int) := by have := HF2.out; rw [hpg, HKE.out]; exact this
      have hpg1 : 1 ≤ pg := by omega
      have hpgP : pg ≤ (P : Int) := by omega
      have HBEH : Hid (∀ p : Int, pg ≤ p → lk (opened B g).M o p = none) := Lib.hid (by rw [HO9.out, HP9.out]; exact HI2.out.behind (by rw [← HO9.out]; exact h0))
      clear ho hpg hnx
      have HSEE4 : Hid (∀ W, Below W4.heap.size W4 W → W.cell? ⟨gb, 0, none⟩ = some (.pointer (some ⟨xb, 0, none⟩)) ∧ W.cell? ⟨gb, 2, none⟩ = some (.int .i64 o) ∧ W.cell? ⟨gb, 3, none⟩ = some (.int .i64 pg) ∧ W.cell? ⟨gb, 4, none⟩ = some (.int .u64 nx)) := Lib.hid (by
        intro W hb
        obtain ⟨rb, cap, hs, -⟩ := (HPT.out.below hb).seen
        exact ⟨hs.c0, by rw [HO9.out]; exact hs.c2, by rw [HP9.out]; exact hs.c3, by rw [HN9.out]; exact hs.c4⟩)
      have hb5 := below_new4 W4 (.cells #[.int .i64 0, .int .i64 0] 51)
      obtain ⟨m0, m2, m3, m4⟩ := HSEE4.out _ hb5
      obtain ⟨c0, c2, c3, c4⟩ := HSEE4.out _ (Below.refl _ _)
      clear hb5
      go_region
      obtain ⟨W6, hW6⟩ : ∃ W6, W6 = (W4.alloc (.cells #[.int .i64 o, .int .i64 pg] 51)).drew := ⟨_, rfl⟩
      have hb6 : Below W4.heap.size W4 W6 := by rw [hW6]; exact (below_new4 _ _).drew
      have hab14 : Ab W6 W4.heap.size o pg := by rw [hW6]; exact Ab.new W4 o pg
      rw [← hW6]
      clear hW6 m0 m2 m3 m4 c0 c2 c3 c4
      have hbd : Below W4.heap.size W4 W6.drew := hb6.drew
      have HBD := Lib.hid hbd
      have HAB14 : Hid (Ab W6.drew W4.heap.size o pg) := Lib.hid hab14
      have HPD := Lib.hid (HPT.out.below hbd)
      have hsee6 := HSEE4.out _ hb6
      obtain ⟨c0, c2, c3, c4⟩ := hsee6
      have HP0 : Hid (W6.drew.cell? ⟨gb, 0, none⟩ = some (.pointer (some ⟨xb, 0, none⟩)) ∧ W6.drew.cell? ⟨gb, 2, none⟩ = some (.int .i64 o) ∧ W6.drew.cell? ⟨gb, 3, none⟩ = some (.int .i64 pg) ∧ W6.drew.cell? ⟨gb, 4, none⟩ = some (.int .u64 nx)) := Lib.hid (HSEE4.out _ hbd)
      obtain ⟨q, hq⟩ : ∃ q, q = nx - 1 := ⟨_, rfl⟩
      have hwq : IntKind.u64.wrap ((nx : Int) - 1) = (q : Int) := by rw [IntWalk.u64_in _ (by omega)]; omega
      have hq2 : q < 18446744073709551616 := by omega
      have hbs6 : Bs W6.drew W4.heap.size A n l := (dt_bs9 HDT.out).below hbd
      have hs16 : j ≤ 16 := HPT.out.inv.shp.s2
      have ca := refAppend_any HPD.out.rdv (by omega) o pg (WalkArith.wf_i64 (by omega)) ⟨h0, hoS⟩ (by omega) kind q hq2 A n c l W4.heap.size hbs6 hbd.size hn (by rw [HKK.out]; exact hfit) (fun p2 hp => HBEH.out p2 hp) HML9.out
      rw [HKK.out] at ca
      have HQ := Lib.hid hq
      have HS2 : Hid (j ≤ 16) := Lib.hid HPT.out.inv.shp.s2
      have hw2 : IntKind.i64.wrap (pg + (K : Int)) = pg + (K : Int) := IntWalk.i64_in _ (by omega)
      clear hbs6 hb6 hab14 hbd hq
      go_wp2
      go_region_held3 (fun W => W.cell? ⟨gb, 0, none⟩ = some (.pointer (some ⟨xb, 0, none⟩)) ∧ W.cell? ⟨gb, 2, none⟩ = some (.int .i64 o) ∧ W.cell? ⟨gb, 3, none⟩ = some (.int .i64 pg) ∧ W.cell? ⟨gb, 4, none⟩ = some (.int .u64 nx))
        (first | exact HP0.out | exact HP7.out)
        ((first | (go_at_call 51; (with_reducible refine ca.mono ?_); rintro e w7 ⟨rfl, v7, hR7, hS7⟩; have HR7 := Lib.hid hR7; have HS7 := Lib.hid hS7; obtain ⟨rb, cap, hgb, hrb, hvr, hne⟩ := HPD.out.blk; have HGB7 := Lib.hid (hgb.kept (hS7.block gb hgb.lt (by rw [HPD.out.vg]; omega))); have HRB7 := Lib.hid (hrb.kept (hS7.block rb hrb.lt (by rw [hvr]; omega))); have HVR := Lib.hid ((hS7.same rb hrb.lt).trans hvr); have HVG := Lib.hid ((hS7.same gb hgb.lt).trans HPD.out.vg); have HNE := Lib.hid hne; have HLT := Lib.hid (And.intro hgb.lt hrb.lt); have HP7 : Hid (w7.cell? ⟨gb, 0, none⟩ = some (.pointer (some ⟨xb, 0, none⟩)) ∧ w7.cell? ⟨gb, 2, none⟩ = some (.int .i64 o) ∧ w7.cell? ⟨gb, 3, none⟩ = some (.int .i64 pg) ∧ w7.cell? ⟨gb, 4, none⟩ = some (.int .u64 nx)) := Lib.hid (by obtain ⟨q0, -, q2, q3, q4⟩ := HGB7.out.c; exact ⟨q0, by rw [HO9.out]; exact q2, by rw [HP9.out]; exact q3, by rw [HN9.out]; exact q4⟩); clear ca hR7 hS7 hgb hrb hvr hne)))
      clear c0 c2 c3 c4
      have c3 := HP7.out.2.2.1
      have f3 := HGB7.out.f 3
      obtain ⟨W8, hW8⟩ : ∃ W8, W8 = w7.setCell ⟨gb, 3, none⟩ (.int .i64 (pg + (K : Int))) := ⟨_, rfl⟩
      have hgn : gb < w.heap.size := HGBW.out.1
      have hrn : w.heap.size ≠ rb := fun e => by
        have h6 := HVN9.out
        have h4 := HVR.out
        rw [HS7.out.same rb HLT.out.2] at h4
        rw [e] at h6
        omega
      have HNEG : Hid (w.heap.size ≠ gb) := Lib.hid (by omega)
      have HNER : Hid (w.heap.size ≠ rb) := Lib.hid hrn
      have hab8 : Ab w7 w.heap.size 0 0 := (HAB9.out.kept (HBD.out.block _ HAB9.out.lt)).kept (HS7.out.block _ (Nat.lt_of_lt_of_le HAB9.out.lt HBD.out.size) (by rw [HVN9.out]; omega))
      have hv14 : vt W4.heap.size = 0 := HPT.out.fr _ (Nat.le_refl _)
      have hab14 : Ab w7 W4.heap.size o pg := HAB14.out.kept (HS7.out.block _ HAB14.out.lt (by rw [hv14]; omega))
      have hN14 : W4.heap.size ≠ gb := fun e => by have := HLT.out.1; have h4 := HVG.out; rw [HS7.out.same gb HLT.out.1, ← e] at h4; omega
      have hx14 := hab14.other ⟨gb, 3, none⟩ (.int .i64 (pg + (K : Int))) hN14
      have hx8 := hab8.other ⟨gb, 3, none⟩ (.int .i64 (pg + (K : Int))) HNEG.out
      have x0 := hx14.c0
      have x1 := hx14.c1
      have z0 := hx8.c0
      have z1 := hx8.c1
      have z2 := hx8.f0
      have z3 := hx8.f1
      have HX8 := Lib.hid hx8
      have HPGK := Lib.hid (rfl : pg + (K : Int) = pg + (K : Int))
      clear hab8 hab14 hx14 hx8 hv14 hN14 hgn hrn
      go_wp2
      rw [← hW8]
      have hX8 : Ab W8 w.heap.size 0 0 := by rw [hW8]; exact HX8.out
      have hT := hX8.put o pg
      have r0 := hT.c0
      have r1 := hT.c1
      have sA : Stp 4 w7 W8 v7 v7 := by rw [hW8]; exact Stp.setCell (a := ⟨gb, 3, none⟩) HVG.out _ HR7.out.fr
      have hvn7 : v7 w.heap.size = 6 := by rw [HS7.out.same _ (Nat.lt_of_lt_of_le HAB9.out.lt HBD.out.size)]; exact HVN9.out
      have sL := box_last (k := 6) (x := o) (y := pg) hX8 sA.fresh hvn7
      have hgb8 : Gb W8 gb xb rb j cap (opened B g).op (pg + (K : Int)) (opened B g).next := by rw [hW8]; exact HGB7.out.setPage _
      have hrb8 : Rb W8 rb (opened B g).st := by rw [hW8]; exact HRB7.out.kept (Below.heap_setCell w7 ⟨gb, 3, none⟩ _ rb HNE.out)
      have hgb9 := hgb8.kept ((Below.heap_setCell _ ⟨w.heap.size, 1, none⟩ (.int .i64 pg) gb (Ne.symm HNEG.out)).trans (Below.heap_setCell W8 ⟨w.heap.size, 0, none⟩ (.int .i64 o) gb (Ne.symm HNEG.out)))
      have hrb9 := hrb8.kept ((Below.heap_setCell _ ⟨w.heap.size, 1, none⟩ (.int .i64 pg) rb (Ne.symm HNER.out)).trans (Below.heap_setCell W8 ⟨w.heap.size, 0, none⟩ (.int .i64 o) rb (Ne.symm HNER.out)))
      have hlm : laid B kind l (opened B g) = ⟨(opened B g).st, (opened B g).op, pg + (K : Int), (opened B g).next, app o pg B (Fm.frame kind q l) K (opened B g).M⟩ := by
        unfold laid
        rw [← HKE9.out, HO9.out, HP9.out, HQ.out, HN9.out]
      exact bodyPost_ret (v := .tuple #[.agg #[.int .i64 o, .int .i64 pg], .int .i64 0]) (by simp [results, Try.results26, go_sem, r0, r1]) rfl
        ⟨by rw [HG.out.2, HE.out, HO9.out, HP9.out], v7, by rw [HG.out.1]; exact ⟨HIL.out, by rw [hlm]; exact (HR7.out.other sA (by omega) (by omega)).other sL (by omega) (by omega), HVG.out, rb, cap, by rw [hlm]; exact hgb9, hrb9, HVR.out, HNE.out⟩, (((HMT.out.step (k := 2) (by unfold Kr; omega) (Stp.below HBD.out HPT.out.fr)).step (k := 2) (by unfold Kr; omega) HS7.out).step (k := 4) (by unfold Kr; omega) sA).step (k := 6) (by unfold Kr; omega) sL⟩
set_option maxHeartbeats 8000000 in
theorem refPut_small_full (h : Rlg w v S P B gb xb g) (hd : Dt w v (.slice A n c) l) (hn : n ≤ 4096) (hneed : need ≤ 1000) (hx1 : 1 ≤ g.next) (hx : g.next < 900000) (hM : g.M.length ≤ 80000) (hr : refI P B kind l.length = 0) (h0 : 0 ≤ g.op) (hfit : ¬ g.page + (Fm.pages l.length B : Int) ≤ (P : Int)) (hc : cnt 0 g.st < need) :
    Calls Try.prog 26 #[.pointer (some ⟨gb, 0, none⟩), .int .u8 (kind.toNat : Int), .slice A n c, .int .i64 need] w (RefPutTo S P B gb xb kind l need g w v) := by
  have hln := (dt_bs9 hd).len
  obtain ⟨hp1, hst1⟩ := h.box (.cells #[.int .i64 0, .int .i64 0] 51) 6
  have HMS1 : Hid (Ms Kr w v (w.alloc (.cells #[.int .i64 0, .int .i64 0] 51)) (paint v w.heap.size 6)) := Lib.hid (Ms.one (k := 6) (by unfold Kr; omega) hst1)
  have HAB1 := Lib.hid (Ab.new w 0 0)
  have HVN : Hid (paint v w.heap.size 6 w.heap.size = 6) := Lib.hid (paint_same _ _ _)
  have hb2 := below_new4 (w.alloc (.cells #[.int .i64 0, .int .i64 0] 51)) (.cells #[.int .i64 S, .int .i64 P, .int .i64 B] 23)
  have hp2 := hp1.below hb2
  have HP2 := Lib.hid hp2
  have HB12 := Lib.hid hb2
  have HF1 := Lib.hid hp1.fr
  have HD2 : Hid (Dt ((w.alloc (.cells #[.int .i64 0, .int .i64 0] 51)).alloc (.cells #[.int .i64 S, .int .i64 P, .int .i64 B] 23)) (paint v w.heap.size 6) (.slice A n c) l) := Lib.hid (((Ms.one (K := fun k => k = 6) rfl hst1).dt hd (by omega)).stp (k := 9) (Stp.below hb2 hp1.fr) (by omega))
  have t3 := Three.new (w.alloc (.cells #[.int .i64 0, .int .i64 0] 51)) (.int .i64 S) (.int .i64 P) (.int .i64 B) 23
  rw [size_alloc] at t3
  have HT3 := Lib.hid t3
  have hbb := h.inv.shp.b1
  have hbb2 := h.inv.shp.b2
  have hpp2 := h.inv.shp.p2
  have cpg := refPages_any n B ((w.alloc (.cells #[.int .i64 0, .int .i64 0] 51)).alloc (.cells #[.int .i64 S, .int .i64 P, .int .i64 B] 23)) hn (by omega) (by omega)
  have hpn : Fm.pages n B = Fm.pages l.length B := by rw [hln]
  have hKle := pages_le n hbb
  obtain ⟨rb0, cap0, hse, -⟩ := hp1.seen
  obtain ⟨c0, c1, c2, c3, c4, s0, s1, s2⟩ := hse
  obtain ⟨-, y0, y1, y2, -⟩ := t3
  obtain ⟨K, hK⟩ : ∃ K, K = Fm.pages n B := ⟨_, rfl⟩
  rw [← hK] at cpg hpn hKle
  have HKE := Lib.hid hpn
  have HKK : Hid (Fm.pages n B = K) := Lib.hid hK.symm
  have HGBW : Hid (gb < w.heap.size ∧ True) := Lib.hid ⟨by obtain ⟨rb, cap, h1, _⟩ := h.blk; exact h1.lt, trivial⟩
  have e1k := u8_one_eq kind
  have hw1 : IntKind.i64.wrap ((K : Int) + 1) = (K : Int) + 1 := IntWalk.i64_in _ (by omega)
  have hroom : room P B l.length g = false := by unfold room; rw [decide_eq_false hfit, Bool.and_false]
  have he : perr P B kind l need g = 5 := by rw [perr_of hr, if_neg (by rw [hroom]; exact Bool.false_ne_true), if_pos hc]
  have HG : Hid (putG P B kind l need g = g ∧ putAt P B kind l need g = (0, 0)) := Lib.hid (by unfold putG putAt; rw [he, if_neg (by omega), if_neg (by omega)]; exact ⟨rfl, rfl⟩)
  have hkind := ref_zero hr
  rw [← hpn] at hkind
  obtain ⟨hkd, hlong⟩ := hkind
  rw [decide_eq_false hkd] at e1k
  have e4 : decide ((4096 : Int) < (n : Int)) = false := decide_eq_false (by omega)
  have e5 : decide ((P : Int) < (K : Int) + 1) = false := decide_eq_false (by omega)
  have e6 : ¬ (P : Int) < (K : Int) + 1 := by omega
  obtain ⟨o0, ho0⟩ : ∃ o0, o0 = g.op := ⟨_, rfl⟩
  obtain ⟨pg0, hpg0⟩ : ∃ pg0, pg0 = g.page := ⟨_, rfl⟩
  have hpg1 := (h.inv.someO h0).2.2.1
  have hpgP := (h.inv.someO h0).2.2.2
  rw [← hpn] at hfit
  rw [← hpg0] at hfit hpg1 hpgP
  rw [← ho0] at h0
  have e7 : decide (o0 < 0) = false := decide_eq_false (by omega)
  have e8 : decide ((P : Int) < pg0 + (K : Int)) = true := decide_eq_true (by omega)
  have e9 : (P : Int) < pg0 + (K : Int) := by omega
  have hw2 : IntKind.i64.wrap (pg0 + (K : Int)) = pg0 + (K : Int) := IntWalk.i64_in _ (by omega)
  have hcn : decide ((cnt 0 g.st : Int) < (need : Int)) = true := decide_eq_true (by omega)
  have hcn2 : decide (cnt 0 g.st < need) = true := decide_eq_true (by omega)
  have HE := Lib.hid he
  have HOP := Lib.hid ho0
  have HPG := Lib.hid hpg0
  have HSEE : Hid (∀ W, Below ((w.alloc (.cells #[.int .i64 0, .int .i64 0] 51)).alloc (.cells #[.int .i64 S, .int .i64 P, .int .i64 B] 23)).heap.size ((w.alloc (.cells #[.int .i64 0, .int .i64 0] 51)).alloc (.cells #[.int .i64 S, .int .i64 P, .int .i64 B] 23)) W → W.cell? ⟨gb, 2, none⟩ = some (.int .i64 o0) ∧ W.cell? ⟨gb, 3, none⟩ = some (.int .i64 pg0)) := Lib.hid (by
    intro W hb
    obtain ⟨rb, cap, hs, -⟩ := (HP2.out.below hb).seen
    exact ⟨by rw [ho0]; exact hs.c2, by rw [hpg0]; exact hs.c3⟩)
  clear h hd hp1 hst1 hp2 hb2 hK
  clear he hr hpn hln ho0 hpg0 c2 c3 hroom hkd hlong hfit
  have c2 := (HSEE.out _ (Below.refl _ _)).1
  have c3 := (HSEE.out _ (Below.refl _ _)).2
  go_enter Try.func26, Try.ntmps26
  go_wp2_with (go_at_call 50; (with_reducible refine cpg.mono ?_); rintro e w3 ⟨rfl, rfl⟩; clear cpg)
  go_quiet (fail)
  have hb4 : Below ((w.alloc (.cells #[.int .i64 0, .int .i64 0] 51)).alloc (.cells #[.int .i64 S, .int .i64 P, .int .i64 B] 23)).heap.size ((w.alloc (.cells #[.int .i64 0, .int .i64 0] 51)).alloc (.cells #[.int .i64 S, .int .i64 P, .int .i64 B] 23)) (((w.alloc (.cells #[.int .i64 0, .int .i64 0] 51)).alloc (.cells #[.int .i64 S, .int .i64 P, .int .i64 B] 23)).drewN nq) := below_drewN (Below.refl _ _) nq
  have HB4 := Lib.hid hb4
  obtain ⟨Wq, hWq⟩ : ∃ Wq, Wq = ((w.alloc (.cells #[.int .i64 0, .int .i64 0] 51)).alloc (.cells #[.int .i64 S, .int .i64 P, .int .i64 B] 23)).drewN nq := ⟨_, rfl⟩
  rw [← hWq] at HB4 ⊢
  clear hb4 hWq c0 c1 c2 c3 c4
  obtain ⟨vq, hvq⟩ : ∃ vq, vq = paint v w.heap.size 6 := ⟨_, rfl⟩
  have HPQ : Hid (Rlg Wq vq S P B gb xb g) := Lib.hid (by rw [hvq]; exact HP2.out.below HB4.out)
  have HDQ : Hid (Dt Wq vq (.slice A n c) l) := Lib.hid (by rw [hvq]; exact HD2.out.stp (k := 9) (Stp.below HB4.out HP2.out.fr) (by omega))
  have HABQ : Hid (Ab Wq w.heap.size 0 0) := Lib.hid ((HAB1.out.kept (HB12.out.block _ HAB1.out.lt)).kept (HB4.out.block _ (Nat.lt_of_lt_of_le HAB1.out.lt HB12.out.size)))
  have HVNQ : Hid (vq w.heap.size = 6) := Lib.hid (by rw [hvq]; exact HVN.out)
  have HMQ : Hid (Ms Kr w v Wq vq) := Lib.hid (by rw [hvq]; exact (HMS1.out.step (k := 6) (by unfold Kr; omega) (Stp.below HB12.out HF1.out)).step (k := 6) (by unfold Kr; omega) (Stp.below HB4.out HP2.out.fr))
  clear hvq
  have cc := refCount_any HPQ.out 0
  obtain ⟨y, hy⟩ : ∃ y, y = cnt 0 g.st := ⟨_, rfl⟩
  rw [← hy] at cc hcn hcn2
  clear hy
  have x0 := HABQ.out.c0
  have x1 := HABQ.out.c1
  have z0 := HABQ.out.f0
  have z1 := HABQ.out.f1
  go_wp2_with (go_at_call 15; (with_reducible refine cc.mono ?_); rintro e w5 ⟨rfl, rfl⟩; clear cc)
  have hT := HABQ.out.put 0 0
  have r0 := hT.c0
  have r1 := hT.c1
  have sL := box_last (k := 6) (x := 0) (y := 0) HABQ.out HPQ.out.fr HVNQ.out
  exact bodyPost_ret (v := .tuple #[.agg #[.int .i64 0, .int .i64 0], .int .i64 5]) (by simp [results, Try.results26, go_sem, r0, r1]) rfl
    ⟨by rw [HG.out.2, HE.out], _, by rw [HG.out.1]; exact HPQ.out.ms (K := fun k => k = 6) (Ms.one (k := 6) rfl sL) (by omega) (by omega) (by omega), HMQ.out.step (k := 6) (by unfold Kr; omega) sL⟩
set_option maxHeartbeats 8000000 in
theorem refPut_small_new (h : Rlg w v S P B gb xb g) (hd : Dt w v (.slice A n c) l) (hn : n ≤ 4096) (hneed : need ≤ 1000) (hx1 : 1 ≤ g.next) (hx : g.next < 900000) (hM : g.M.length ≤ 80000) (hr : refI P B kind l.length = 0) (h0 : 0 ≤ g.op) (hfit : ¬ g.page + (Fm.pages l.length B : Int) ≤ (P : Int)) (hc : ¬ cnt 0 g.st < need) (hneed1 : 1 ≤ need) :
    Calls Try.prog 26 #[.pointer (some ⟨gb, 0, none⟩), .int .u8 (kind.toNat : Int), .slice A n c, .int .i64 need] w (RefPutTo S P B gb xb kind l need g w v) := by
  have hln := (dt_bs9 hd).len
  obtain ⟨hp1, hst1⟩ := h.box (.cells #[.int .i64 0, .int .i64 0] 51) 6
  have HMS1 : Hid (Ms Kr w v (w.alloc (.cells #[.int .i64 0, .int .i64 0] 51)) (paint v w.heap.size 6)) := Lib.hid (Ms.one (k := 6) (by unfold Kr; omega) hst1)
  have HAB1 := Lib.hid (Ab.new w 0 0)
  have HVN : Hid (paint v w.heap.size 6 w.heap.size = 6) := Lib.hid (paint_same _ _ _)
  have hb2 := below_new4 (w.alloc (.cells #[.int .i64 0, .int .i64 0] 51)) (.cells #[.int .i64 S, .int .i64 P, .int .i64 B] 23)
  have hp2 := hp1.below hb2
  have HP2 := Lib.hid hp2
  have HB12 := Lib.hid hb2
  have HF1 := Lib.hid hp1.fr
  have HD2 : Hid (Dt ((w.alloc (.cells #[.int .i64 0, .int .i64 0] 51)).alloc (.cells #[.int .i64 S, .int .i64 P, .int .i64 B] 23)) (paint v w.heap.size 6) (.slice A n c) l) := Lib.hid (((Ms.one (K := fun k => k = 6) rfl hst1).dt hd (by omega)).stp (k := 9) (Stp.below hb2 hp1.fr) (by omega))
  have t3 := Three.new (w.alloc (.cells #[.int .i64 0, .int .i64 0] 51)) (.int .i64 S) (.int .i64 P) (.int .i64 B) 23
  rw [size_alloc] at t3
  have HT3 := Lib.hid t3
  have hbb := h.inv.shp.b1
  have hbb2 := h.inv.shp.b2
  have hpp2 := h.inv.shp.p2
  have cpg := refPages_any n B ((w.alloc (.cells #[.int .i64 0, .int .i64 0] 51)).alloc (.cells #[.int .i64 S, .int .i64 P, .int .i64 B] 23)) hn (by omega) (by omega)
  have hpn : Fm.pages n B = Fm.pages l.length B := by rw [hln]
  have hKle := pages_le n hbb
  obtain ⟨rb0, cap0, hse, -⟩ := hp1.seen
  obtain ⟨c0, c1, c2, c3, c4, s0, s1, s2⟩ := hse
  obtain ⟨-, y0, y1, y2, -⟩ := t3
  obtain ⟨K, hK⟩ : ∃ K, K = Fm.pages n B := ⟨_, rfl⟩
  rw [← hK] at cpg hpn hKle
  have HKE := Lib.hid hpn
  have HKK : Hid (Fm.pages n B = K) := Lib.hid hK.symm
  have HGBW : Hid (gb < w.heap.size ∧ True) := Lib.hid ⟨by obtain ⟨rb, cap, h1, _⟩ := h.blk; exact h1.lt, trivial⟩
  have e1k := u8_one_eq kind
  have hw1 : IntKind.i64.wrap ((K : Int) + 1) = (K : Int) + 1 := IntWalk.i64_in _ (by omega)
  have hroom : room P B l.length g = false := by unfold room; rw [decide_eq_false hfit, Bool.and_false]
  have he : perr P B kind l need g = 0 := by rw [perr_of hr, if_neg (by rw [hroom]; exact Bool.false_ne_true), if_neg hc]
  have hrd : ready P B l.length g = opened B g := by unfold ready; rw [if_neg (by rw [hroom]; exact Bool.false_ne_true)]
  have hrdy := perr_ready h.inv hneed1 he
  rw [hrd] at hrdy
  obtain ⟨hI2, ho2, hf2⟩ := hrdy
  have HG : Hid (putG P B kind l need g = laid B kind l (opened B g) ∧ putAt P B kind l need g = ((opened B g).op, (opened B g).page)) := Lib.hid (by unfold putG putAt; rw [if_pos he, if_pos he, hrd]; exact ⟨rfl, rfl⟩)
  have HIL := Lib.hid (hI2.laid ho2 kind l hf2)
  have HI2 := Lib.hid hI2
  have HF2 : Hid ((1 : Int) + (Fm.pages l.length B : Int) ≤ (P : Int)) := Lib.hid hf2
  have hcc : 0 < cnt 0 g.st := by omega
  have hjxS := h.inv.ixS hcc
  obtain ⟨hjx0, hjxb⟩ := ix_at hcc
  obtain ⟨jx, hjx⟩ : ∃ jx, jx = ix 0 g.st := ⟨_, rfl⟩
  rw [← hjx] at hjxS hjx0 hjxb
  have HJX := Lib.hid hjx
  have HFREE := Lib.hid (h.inv.free _ hjx0)
  have HS0 : Hid ((sealG g).st[jx]? = some 0) := Lib.hid ((h.inv.sealed0 jx).2 hjx0)
  have HSB : Hid (∀ j : Nat, j < jx → (sealG g).st[j]? ≠ some 0) := Lib.hid (fun j hj hc2 => hjxb j hj ((h.inv.sealed0 j).1 hc2))
  have HSLEN : Hid ((sealG g).st.length = S) := Lib.hid h.inv.sealG.len
  have hjx16 : jx < 16 := by have := h.inv.shp.s2; omega
  have hkind := ref_zero hr
  rw [← hpn] at hkind
  obtain ⟨hkd, hlong⟩ := hkind
  rw [decide_eq_false hkd] at e1k
  have e4 : decide ((4096 : Int) < (n : Int)) = false := decide_eq_false (by omega)
  have e5 : decide ((P : Int) < (K : Int) + 1) = false := decide_eq_false (by omega)
  have e6 : ¬ (P : Int) < (K : Int) + 1 := by omega
  obtain ⟨o0, ho0⟩ : ∃ o0, o0 = g.op := ⟨_, rfl⟩
  obtain ⟨pg0, hpg0⟩ : ∃ pg0, pg0 = g.page := ⟨_, rfl⟩
  have hpg1 := (h.inv.someO h0).2.2.1
  have hpgP := (h.inv.someO h0).2.2.2
  rw [← hpn] at hfit
  rw [← hpg0] at hfit hpg1 hpgP
  rw [← ho0] at h0
  have e7 : decide (o0 < 0) = false := decide_eq_false (by omega)
  have e8 : decide ((P : Int) < pg0 + (K : Int)) = true := decide_eq_true (by omega)
  have e9 : (P : Int) < pg0 + (K : Int) := by omega
  have hw2 : IntKind.i64.wrap (pg0 + (K : Int)) = pg0 + (K : Int) := IntWalk.i64_in _ (by omega)
  have hcn : decide ((cnt 0 g.st : Int) < (need : Int)) = false := decide_eq_false (by omega)
  have hcn2 : decide (cnt 0 g.st < need) = false := decide_eq_false (by omega)
  have HE := Lib.hid he
  have HOP := Lib.hid ho0
  have HPG := Lib.hid hpg0
  have HSEE : Hid (∀ W, Below ((w.alloc (.cells #[.int .i64 0, .int .i64 0] 51)).alloc (.cells #[.int .i64 S, .int .i64 P, .int .i64 B] 23)).heap.size ((w.alloc (.cells #[.int .i64 0, .int .i64 0] 51)).alloc (.cells #[.int .i64 S, .int .i64 P, .int .i64 B] 23)) W → W.cell? ⟨gb, 2, none⟩ = some (.int .i64 o0) ∧ W.cell? ⟨gb, 3, none⟩ = some (.int .i64 pg0)) := Lib.hid (by
    intro W hb
    obtain ⟨rb, cap, hs, -⟩ := (HP2.out.below hb).seen
    exact ⟨by rw [ho0]; exact hs.c2, by rw [hpg0]; exact hs.c3⟩)
  clear h hd hp1 hst1 hp2 hb2 hK
  clear he hr hpn hln ho0 hpg0 c2 c3 hroom hkd hlong hrd hI2 ho2 hf2 hjx0 hjxb hjx hfit
  have c2 := (HSEE.out _ (Below.refl _ _)).1
  have c3 := (HSEE.out _ (Below.refl _ _)).2
  go_enter Try.func26, Try.ntmps26
  go_wp2_with (go_at_call 50; (with_reducible refine cpg.mono ?_); rintro e w3 ⟨rfl, rfl⟩; clear cpg)
  go_quiet (fail)
  have hb4 : Below ((w.alloc (.cells #[.int .i64 0, .int .i64 0] 51)).alloc (.cells #[.int .i64 S, .int .i64 P, .int .i64 B] 23)).heap.size ((w.alloc (.cells #[.int .i64 0, .int .i64 0] 51)).alloc (.cells #[.int .i64 S, .int .i64 P, .int .i64 B] 23)) (((w.alloc (.cells #[.int .i64 0, .int .i64 0] 51)).alloc (.cells #[.int .i64 S, .int .i64 P, .int .i64 B] 23)).drewN nq) := below_drewN (Below.refl _ _) nq
  have HB4 := Lib.hid hb4
  obtain ⟨Wq, hWq⟩ : ∃ Wq, Wq = ((w.alloc (.cells #[.int .i64 0, .int .i64 0] 51)).alloc (.cells #[.int .i64 S, .int .i64 P, .int .i64 B] 23)).drewN nq := ⟨_, rfl⟩
  rw [← hWq] at HB4 ⊢
  clear hb4 hWq c0 c1 c2 c3 c4
  obtain ⟨vq, hvq⟩ : ∃ vq, vq = paint v w.heap.size 6 := ⟨_, rfl⟩
  have HPQ : Hid (Rlg Wq vq S P B gb xb g) := Lib.hid (by rw [hvq]; exact HP2.out.below HB4.out)
  have HDQ : Hid (Dt Wq vq (.slice A n c) l) := Lib.hid (by rw [hvq]; exact HD2.out.stp (k := 9) (Stp.below HB4.out HP2.out.fr) (by omega))
  have HABQ : Hid (Ab Wq w.heap.size 0 0) := Lib.hid ((HAB1.out.kept (HB12.out.block _ HAB1.out.lt)).kept (HB4.out.block _ (Nat.lt_of_lt_of_le HAB1.out.lt HB12.out.size)))
  have HVNQ : Hid (vq w.heap.size = 6) := Lib.hid (by rw [hvq]; exact HVN.out)
  have HMQ : Hid (Ms Kr w v Wq vq) := Lib.hid (by rw [hvq]; exact (HMS1.out.step (k := 6) (by unfold Kr; omega) (Stp.below HB12.out HF1.out)).step (k := 6) (by unfold Kr; omega) (Stp.below HB4.out HP2.out.fr))
  clear hvq
  have cc := refCount_any HPQ.out 0
  obtain ⟨y, hy⟩ : ∃ y, y = cnt 0 g.st := ⟨_, rfl⟩
  rw [← hy] at cc hcn hcn2
  clear hy
  have cse := refLseal_any HPQ.out
  have hS16 : S ≤ 16 := HPQ.out.inv.shp.s2
  go_wp2_with (first
    | (go_at_call 15; (with_reducible refine cc.mono ?_); rintro e w5 ⟨rfl, rfl⟩; clear cc)
    | (go_at_call 30; (with_reducible refine cse.mono ?_); rintro e w6 ⟨rfl, hP6, hS6⟩; have HP6 := Lib.hid hP6; have HS6 := Lib.hid hS6; obtain ⟨rb, cap, hgb, hrb, hvr, hne⟩ := hP6.blk; have HGB6 := Lib.hid hgb; have HRB6 := Lib.hid hrb; have HVR6 := Lib.hid hvr; have HNE := Lib.hid hne; obtain ⟨d0, d1, -⟩ := hgb.c; clear cse hP6 hS6 hgb hrb hvr hne))
  have HVG6 := Lib.hid HP6.out.vg
  go_loopw [12, 13, 69] (fun _ _ i wr => ∃ (j : Nat) (o2 : Int), j ≤ S ∧ i = .int .i64 j ∧ Hid (o2 = if jx < j then (jx : Int) else -1) ∧ Hid (Gb wr gb xb rb S cap o2 0 g.next) ∧ Hid (Rb wr rb (sealG g).st) ∧ Hid (Stp 4 w6 wr vq vq)) (fun _ _ i _ => S - (intOf i).toNat)
  case atStart => exact ⟨0, -1, Nat.zero_le _, rfl, Lib.hid (by rw [if_neg (by omega)]), HGB6, HRB6, Lib.hid (Stp.refl HP6.out.fr)⟩
  case round =>
    obtain ⟨j, o2, hj, rfl, HO2, HGBr, HRBr, HSr⟩ := hrel
    obtain ⟨g0c, g1c, g2c, g3c, g4c⟩ := HGBr.out.c
    by_cases hlt : j < S
    · have hjl : j < (sealG g).st.length := by rw [HSLEN.out]; exact hlt
      have HQ0 := Lib.hid (List.getElem?_eq_getElem hjl)
      generalize (sealG g).st[j] = y0 at HQ0
      have cy := HRBr.out.c HQ0.out
      have hltI : (j : Int) < (S : Int) := by omega
      clear hjl
      by_cases hy0 : y0 = 0
      · subst hy0
        by_cases hjj : jx < j
        · have ho2 : o2 = (jx : Int) := by have := HO2.out; rwa [if_pos hjj] at this
          subst ho2
          have e10 : decide ((jx : Int) < 0) = false := decide_eq_false (by omega)
          go_wp2
          go_roundw
          case rel => exact ⟨j + 1, (jx : Int), by omega, by go_num, Lib.hid (by rw [if_pos (by omega)]), HGBr, HRBr, HSr⟩
          case measure => simp [intOf]; omega
        · have ho2 : o2 = -1 := by have := HO2.out; rwa [if_neg hjj] at this
          subst ho2
          have hjeq : jx = j := by
            rcases Nat.lt_or_ge j jx with h9 | h9
            · exact absurd HQ0.out (HSB.out j h9)
            · omega
          have f2 := HGBr.out.f 2
          go_wp2
          go_roundw
          case rel =>
            refine ⟨j + 1, (j : Int), by omega, by go_num, Lib.hid (by rw [if_pos (by omega), hjeq]), Lib.hid (HGBr.out.setOp _), Lib.hid (HRBr.out.kept (Below.heap_setCell _ ⟨gb, 2, none⟩ _ rb HNE.out)), Lib.hid (HSr.out.trans (Stp.setCell (a := ⟨gb, 2, none⟩) HVG6.out _ HSr.out.fresh))⟩
          case measure => simp [intOf]; omega
      · have hyb : (y0 == 0) = false := by rw [beq_eq_false_iff_ne]; exact hy0
        have HNJ : Hid (jx ≠ j) := Lib.hid (fun e => by
          have h9 := HS0.out
          rw [e, HQ0.out] at h9
          injection h9 with h9
          exact hy0 h9)
        clear hy0
        go_wp2
        go_roundw
        case rel => exact ⟨j + 1, o2, by omega, by go_num, Lib.hid (by have := HO2.out; have := HNJ.out; rw [HO2.out]; by_cases h9 : jx < j <;> simp [h9] <;> omega), HGBr, HRBr, HSr⟩
        case measure => simp [intOf]; omega
    · obtain rfl : j = S := by omega
      have ho2 : o2 = (jx : Int) := by have := HO2.out; rwa [if_pos hjxS] at this
      subst ho2
      have hjxI : (jx : Int) < (j : Int) := by omega
      have cy := HRBr.out.c HS0.out
      have fy := HRBr.out.f jx
      go_wp2
      go_region
      have hz8 : Stp 4 wr (wr.setCell ⟨rb, jx, none⟩ (.int .i64 1)).drew vq vq := (Stp.setCell (a := ⟨rb, jx, none⟩) HVR6.out _ HSr.out.fresh).drew
      have hgb8 : Gb (wr.setCell ⟨rb, jx, none⟩ (.int .i64 1)).drew gb xb rb j cap (jx : Int) 0 g.next := HGBr.out.kept (Below.heap_setCell wr ⟨rb, jx, none⟩ _ gb (Ne.symm HNE.out))
      have hrb8 : Rb (wr.setCell ⟨rb, jx, none⟩ (.int .i64 1)).drew rb ((sealG g).st.set jx 1) := HRBr.out.set (by rw [HSLEN.out]; exact hjxS) 1
      have HS8 := Lib.hid hz8
      have HGB8 := Lib.hid hgb8
      have HRB8 := Lib.hid hrb8
      clear hz8 hgb8 hrb8 g0c g1c g2c g3c g4c cy fy
      obtain ⟨w8, hw8⟩ : ∃ w8, w8 = (wr.setCell ⟨rb, jx, none⟩ (.int .i64 1)).drew := ⟨_, rfl⟩
      rw [← hw8] at HS8 HGB8 HRB8 ⊢
      clear hw8
      have HS8d : Hid (Stp 4 w6 w8.drew vq vq) := Lib.hid (HSr.out.trans HS8.out.drew)
      have HR8 : Hid (Rdv w8.drew vq 2 j P B xb g.M) := Lib.hid (HP6.out.rdv.other HS8d.out (by omega) (by omega))
      obtain ⟨g0c, -, g2c, g3c, g4c⟩ := HGB8.out.c
      have HP0 : Hid (w8.drew.cell? ⟨gb, 0, none⟩ = some (.pointer (some ⟨xb, 0, none⟩)) ∧ w8.drew.cell? ⟨gb, 2, none⟩ = some (.int .i64 (jx : Int)) ∧ w8.drew.cell? ⟨gb, 4, none⟩ = some (.int .u64 g.next)) := Lib.hid ⟨g0c, g2c, g4c⟩
      have hKh : Fm.pages 0 B = 1 := pages_head hbb
      have hp11 : 1 ≤ P := HPQ.out.inv.shp.p1
      have ca0 : Calls Try.prog 51 #[.pointer (some ⟨xb, 0, none⟩), .int .i64 (jx : Int), .int .i64 0, .int .u64 g.next, .int .u8 1, .slice none 0 0] w8.drew (RefAppendTo 2 j P B xb (app (jx : Int) 0 B (Fm.frame 1 g.next []) (Fm.pages 0 B) g.M) (Fm.pages 0 B) w8.drew vq) :=
        refAppend_any HR8.out (by omega) (jx : Int) 0 (WalkArith.wf_i64 (by omega)) ⟨by omega, hjxI⟩ (by omega) 1 g.next (by omega) none 0 0 [] 0 (Bs.nil _ _ _) (Nat.zero_le _) (by omega) (by rw [hKh]; omega) (fun p2 _ => HFREE.out p2) (by omega)
      rw [hKh] at ca0
      go_wp2
      go_region_held3 (fun W => W.cell? ⟨gb, 0, none⟩ = some (.pointer (some ⟨xb, 0, none⟩)) ∧ W.cell? ⟨gb, 2, none⟩ = some (.int .i64 (jx : Int)) ∧ W.cell? ⟨gb, 4, none⟩ = some (.int .u64 g.next))
        (first | exact HP0.out | exact HP9.out)
        ((first | (go_at_call 51; (with_reducible refine ca0.mono ?_); rintro e w9 ⟨rfl, v9, hR9, hS9⟩; have HR9 := Lib.hid hR9; have HS9 := Lib.hid hS9; have HGB9 := Lib.hid (Gb.kept (w := w8.drew) HGB8.out (hS9.block gb (by exact HGB8.out.lt) (by rw [HVG6.out]; omega))); have HRB9 := Lib.hid (Rb.kept (w := w8.drew) HRB8.out (hS9.block rb (by exact HRB8.out.lt) (by rw [HVR6.out]; omega))); have HVG9 := Lib.hid ((hS9.same gb (by exact HGB8.out.lt)).trans HVG6.out); have HVR9 := Lib.hid ((hS9.same rb (by exact HRB8.out.lt)).trans HVR6.out); have HP9 : Hid (w9.cell? ⟨gb, 0, none⟩ = some (.pointer (some ⟨xb, 0, none⟩)) ∧ w9.cell? ⟨gb, 2, none⟩ = some (.int .i64 (jx : Int)) ∧ w9.cell? ⟨gb, 4, none⟩ = some (.int .u64 g.next)) := Lib.hid (by obtain ⟨q0, -, q2, -, q4⟩ := HGB9.out.c; exact ⟨q0, q2, q4⟩); clear ca0 hR9 hS9)))
      clear g0c g2c g3c g4c
      obtain ⟨-, -, -, c3, c4⟩ := HGB9.out.c
      have f3 := HGB9.out.f 3
      have f4 := HGB9.out.f 4
      have hwn : IntKind.u64.wrap ((g.next : Int) + 1) = ((g.next + 1 : Nat) : Int) := by rw [IntWalk.u64_in _ (by omega)]; omega
      go_wp2
      obtain ⟨W4, hW4⟩ : ∃ W4, W4 = (w9.setCell ⟨gb, 3, none⟩ (.int .i64 1)).setCell ⟨gb, 4, none⟩ (.int .u64 ((g.next : Int) + 1)) := ⟨_, rfl⟩
      have hsA : Stp 4 w9 (w9.setCell ⟨gb, 3, none⟩ (.int .i64 1)) v9 v9 := Stp.setCell (a := ⟨gb, 3, none⟩) HVG9.out _ HR9.out.fr
      have hsB : Stp 4 w9 W4 v9 v9 := by rw [hW4]; exact hsA.trans (Stp.setCell (a := ⟨gb, 4, none⟩) HVG9.out _ hsA.fresh)
      have hgb4 : Gb W4 gb xb rb j cap (jx : Int) 1 (g.next + 1) := by rw [hW4]; exact (HGB9.out.setPage 1).setNext (g.next + 1)
      have hrb4 : Rb W4 rb ((sealG g).st.set jx 1) := by rw [hW4]; exact HRB9.out.kept ((Below.heap_setCell _ ⟨gb, 4, none⟩ _ rb HNE.out).trans (Below.heap_setCell w9 ⟨gb, 3, none⟩ _ rb HNE.out))
      have hmq : Ms K24 Wq vq W4 v9 := ((((Ms.one (k := 4) (by unfold K24; omega) HS6.out).step (k := 4) (by unfold K24; omega) HS8d.out).step (k := 2) (by unfold K24; omega) HS9.out).step (k := 4) (by unfold K24; omega) hsB)
      have HMQ4 := Lib.hid hmq
      obtain ⟨vt, hvt⟩ : ∃ vt, vt = v9 := ⟨_, rfl⟩
      have HPT : Hid (Rlg W4 vt j P B gb xb (opened B g)) := Lib.hid (by
        rw [hvt]
        refine ⟨HI2.out, ?_, HVG9.out, rb, cap, ?_, ?_, HVR9.out, HNE.out⟩
        · show Rdv W4 v9 2 j P B xb (app (ix 0 g.st : Int) 0 B (Fm.frame 1 g.next []) 1 g.M)
          rw [← HJX.out]
          exact HR9.out.other hsB (by omega) (by omega)
        · show Gb W4 gb xb rb j cap (ix 0 g.st : Int) 1 (g.next + 1)
          rw [← HJX.out]
          exact hgb4
        · show Rb W4 rb ((sealG g).st.set (ix 0 g.st) 1)
          rw [← HJX.out]
          exact hrb4)
      have HDT : Hid (Dt W4 vt (.slice A n c) l) := Lib.hid (by rw [hvt]; exact hmq.dt HDQ.out (by unfold K24; omega))
      have HAB9 : Hid (Ab W4 w.heap.size 0 0) := Lib.hid (HABQ.out.ms hmq (by rw [HVNQ.out]; unfold K24; omega))
      have HVN9 : Hid (vt w.heap.size = 6) := Lib.hid (by rw [hvt, hmq.same HABQ.out.lt]; exact HVNQ.out)
      have HMT : Hid (Ms Kr w v W4 vt) := Lib.hid (by rw [hvt]; exact HMQ.out.trans (hmq.mono k24_r))
      clear hvt hmq hsA hsB hgb4 hrb4 c3 c4 f3 f4 HR9 HS9 HGB9 HRB9 HVG9 HVR9 HP9 HS8 HGB8 HRB8 HR8 HP0 HGBr HRBr HSr HO2 HGB6 HRB6 HVR6 HVG6 HNE
      rw [← hW4]
      clear hW4
      obtain ⟨o, ho⟩ : ∃ o : Int, o = (jx : Int) := ⟨_, rfl⟩
      obtain ⟨pg, hpg⟩ : ∃ pg : Int, pg = 1 := ⟨_, rfl⟩
      obtain ⟨nx, hnx⟩ : ∃ nx, nx = g.next + 1 := ⟨_, rfl⟩
      have HO9 : Hid (o = (opened B g).op) := Lib.hid (by rw [ho, HJX.out]; rfl)
      have HP9 : Hid (pg = (opened B g).page) := Lib.hid hpg
      have HN9 : Hid (nx = (opened B g).next) := Lib.hid hnx
      have hnx1 : 1 ≤ nx := by omega
      have hnx2 : nx < 1000000 := by omega
      have HKE9 := HKE
      have HML9 : Hid ((opened B g).M.length ≤ 90000) := Lib.hid (by rw [opened_length]; omega)
      have h0 : 0 ≤ o := by omega
      have hoS : o < (j : Int) := by omega
      have hfit : pg + (K : Int) ≤ (P : Int) := by have := HF2.out; rw [hpg, HKE.out]; exact this
      have hpg1 : 1 ≤ pg := by omega
      have hpgP : pg ≤ (P : Int) := by omega
      have HBEH : Hid (∀ p : Int, pg ≤ p → lk (opened B g).M o p = none) := Lib.hid (by rw [HO9.out, HP9.out]; exact HI2.out.behind (by rw [← HO9.out]; exact h0))
      clear ho hpg hnx
      have HSEE4 : Hid (∀ W, Below W4.heap.size W4 W → W.cell? ⟨gb, 0, none⟩ = some (.pointer (some ⟨xb, 0, none⟩)) ∧ W.cell? ⟨gb, 2, none⟩ = some (.int .i64 o) ∧ W.cell? ⟨gb, 3, none⟩ = some (.int .i64 pg) ∧ W.cell? ⟨gb, 4, none⟩ = some (.int .u64 nx)) := Lib.hid (by
        intro W hb
        obtain ⟨rb, cap, hs, -⟩ := (HPT.out.below hb).seen
        exact ⟨hs.c0, by rw [HO9.out]; exact hs.c2, by rw [HP9.out]; exact hs.c3, by rw [HN9.out]; exact hs.c4⟩)
      have hb5 := below_new4 W4 (.cells #[.int .i64 0, .int .i64 0] 51)
      obtain ⟨m0, m2, m3, m4⟩ := HSEE4.out _ hb5
      obtain ⟨c0, c2, c3, c4⟩ := HSEE4.out _ (Below.refl _ _)
      clear hb5
      go_region
      obtain ⟨W6, hW6⟩ : ∃ W6, W6 = (W4.alloc (.cells #[.int .i64 o, .int .i64 pg] 51)).drew := ⟨_, rfl⟩
      have hb6 : Below W4.heap.size W4 W6 := by rw [hW6]; exact (below_new4 _ _).drew
      have hab14 : Ab W6 W4.heap.size o pg := by rw [hW6]; exact Ab.new W4 o pg
      rw [← hW6]
      clear hW6 m0 m2 m3 m4 c0 c2 c3 c4
      have hbd : Below W4.heap.size W4 W6.drew := hb6.drew
      have HBD := Lib.hid hbd
      have HAB14 : Hid (Ab W6.drew W4.heap.size o pg) := Lib.hid hab14
      have HPD := Lib.hid (HPT.out.below hbd)
      have hsee6 := HSEE4.out _ hb6
      obtain ⟨c0, c2, c3, c4⟩ := hsee6
      have HP0 : Hid (W6.drew.cell? ⟨gb, 0, none⟩ = some (.pointer (some ⟨xb, 0, none⟩)) ∧ W6.drew.cell? ⟨gb, 2, none⟩ = some (.int .i64 o) ∧ W6.drew.cell? ⟨gb, 3, none⟩ = some (.int .i64 pg) ∧ W6.drew.cell? ⟨gb, 4, none⟩ = some (.int .u64 nx)) := Lib.hid (HSEE4.out _ hbd)
      obtain ⟨q, hq⟩ : ∃ q, q = nx - 1 := ⟨_, rfl⟩
      have hwq : IntKind.u64.wrap ((nx : Int) - 1) = (q : Int) := by rw [IntWalk.u64_in _ (by omega)]; omega
      have hq2 : q < 18446744073709551616 := by omega
      have hbs6 : Bs W6.drew W4.heap.size A n l := (dt_bs9 HDT.out).below hbd
      have hs16 : j ≤ 16 := HPT.out.inv.shp.s2
      have ca := refAppend_any HPD.out.rdv (by omega) o pg (WalkArith.wf_i64 (by omega)) ⟨h0, hoS⟩ (by omega) kind q hq2 A n c l W4.heap.size hbs6 hbd.size hn (by rw [HKK.out]; exact hfit) (fun p2 hp => HBEH.out p2 hp) HML9.out
      rw [HKK.out] at ca
      have HQ := Lib.hid hq
      have HS2 : Hid (j ≤ 16) := Lib.hid HPT.out.inv.shp.s2
      have hw2 : IntKind.i64.wrap (pg + (K : Int)) = pg + (K : Int) := IntWalk.i64_in _ (by omega)
      clear hbs6 hb6 hab14 hbd hq
      go_wp2
      go_region_held3 (fun W => W.cell? ⟨gb, 0, none⟩ = some (.pointer (some ⟨xb, 0, none⟩)) ∧ W.cell? ⟨gb, 2, none⟩ = some (.int .i64 o) ∧ W.cell? ⟨gb, 3, none⟩ = some (.int .i64 pg) ∧ W.cell? ⟨gb, 4, none⟩ = some (.int .u64 nx))
        (first | exact HP0.out | exact HP7.out)
        ((first | (go_at_call 51; (with_reducible refine ca.mono ?_); rintro e w7 ⟨rfl, v7, hR7, hS7⟩; have HR7 := Lib.hid hR7; have HS7 := Lib.hid hS7; obtain ⟨rb, cap, hgb, hrb, hvr, hne⟩ := HPD.out.blk; have HGB7 := Lib.hid (hgb.kept (hS7.block gb hgb.lt (by rw [HPD.out.vg]; omega))); have HRB7 := Lib.hid (hrb.kept (hS7.block rb hrb.lt (by rw [hvr]; omega))); have HVR := Lib.hid ((hS7.same rb hrb.lt).trans hvr); have HVG := Lib.hid ((hS7.same gb hgb.lt).trans HPD.out.vg); have HNE := Lib.hid hne; have HLT := Lib.hid (And.intro hgb.lt hrb.lt); have HP7 : Hid (w7.cell? ⟨gb, 0, none⟩ = some (.pointer (some ⟨xb, 0, none⟩)) ∧ w7.cell? ⟨gb, 2, none⟩ = some (.int .i64 o) ∧ w7.cell? ⟨gb, 3, none⟩ = some (.int .i64 pg) ∧ w7.cell? ⟨gb, 4, none⟩ = some (.int .u64 nx)) := Lib.hid (by obtain ⟨q0, -, q2, q3, q4⟩ := HGB7.out.c; exact ⟨q0, by rw [HO9.out]; exact q2, by rw [HP9.out]; exact q3, by rw [HN9.out]; exact q4⟩); clear ca hR7 hS7 hgb hrb hvr hne)))
      clear c0 c2 c3 c4
      have c3 := HP7.out.2.2.1
      have f3 := HGB7.out.f 3
      obtain ⟨W8, hW8⟩ : ∃ W8, W8 = w7.setCell ⟨gb, 3, none⟩ (.int .i64 (pg + (K : Int))) := ⟨_, rfl⟩
      have hgn : gb < w.heap.size := HGBW.out.1
      have hrn : w.heap.size ≠ rb := fun e => by
        have h6 := HVN9.out
        have h4 := HVR.out
        rw [HS7.out.same rb HLT.out.2] at h4
        rw [e] at h6
        omega
      have HNEG : Hid (w.heap.size ≠ gb) := Lib.hid (by omega)
      have HNER : Hid (w.heap.size ≠ rb) := Lib.hid hrn
      have hab8 : Ab w7 w.heap.size 0 0 := (HAB9.out.kept (HBD.out.block _ HAB9.out.lt)).kept (HS7.out.block _ (Nat.lt_of_lt_of_le HAB9.out.lt HBD.out.size) (by rw [HVN9.out]; omega))
      have hv14 : vt W4.heap.size = 0 := HPT.out.fr _ (Nat.le_refl _)
      have hab14 : Ab w7 W4.heap.size o pg := HAB14.out.kept (HS7.out.block _ HAB14.out.lt (by rw [hv14]; omega))
      have hN14 : W4.heap.size ≠ gb := fun e => by have := HLT.out.1; have h4 := HVG.out; rw [HS7.out.same gb HLT.out.1, ← e] at h4; omega
      have hx14 := hab14.other ⟨gb, 3, none⟩ (.int .i64 (pg + (K : Int))) hN14
      have hx8 := hab8.other ⟨gb, 3, none⟩ (.int .i64 (pg + (K : Int))) HNEG.out
      have x0 := hx14.c0
      have x1 := hx14.c1
      have z0 := hx8.c0
      have z1 := hx8.c1
      have z2 := hx8.f0
      have z3 := hx8.f1
      have HX8 := Lib.hid hx8
      have HPGK := Lib.hid (rfl : pg + (K : Int) = pg + (K : Int))
      clear hab8 hab14 hx14 hx8 hv14 hN14 hgn hrn
      go_wp2
      rw [← hW8]
      have hX8 : Ab W8 w.heap.size 0 0 := by rw [hW8]; exact HX8.out
      have hT := hX8.put o pg
      have r0 := hT.c0
      have r1 := hT.c1
      have sA : Stp 4 w7 W8 v7 v7 := by rw [hW8]; exact Stp.setCell (a := ⟨gb, 3, none⟩) HVG.out _ HR7.out.fr
      have hvn7 : v7 w.heap.size = 6 := by rw [HS7.out.same _ (Nat.lt_of_lt_of_le HAB9.out.lt HBD.out.size)]; exact HVN9.out
      have sL := box_last (k := 6) (x := o) (y := pg) hX8 sA.fresh hvn7
      have hgb8 : Gb W8 gb xb rb j cap (opened B g).op (pg + (K : Int)) (opened B g).next := by rw [hW8]; exact HGB7.out.setPage _
      have hrb8 : Rb W8 rb (opened B g).st := by rw [hW8]; exact HRB7.out.kept (Below.heap_setCell w7 ⟨gb, 3, none⟩ _ rb HNE.out)
      have hgb9 := hgb8.kept ((Below.heap_setCell _ ⟨w.heap.size, 1, none⟩ (.int .i64 pg) gb (Ne.symm HNEG.out)).trans (Below.heap_setCell W8 ⟨w.heap.size, 0, none⟩ (.int .i64 o) gb (Ne.symm HNEG.out)))
      have hrb9 := hrb8.kept ((Below.heap_setCell _ ⟨w.heap.size, 1, none⟩ (.int .i64 pg) rb (Ne.symm HNER.out)).trans (Below.heap_setCell W8 ⟨w.heap.size, 0, none⟩ (.int .i64 o) rb (Ne.symm HNER.out)))
      have hlm : laid B kind l (opened B g) = ⟨(opened B g).st, (opened B g).op, pg + (K : Int), (opened B g).next, app o pg B (Fm.frame kind q l) K (opened B g).M⟩ := by
        unfold laid
        rw [← HKE9.out, HO9.out, HP9.out, HQ.out, HN9.out]
      exact bodyPost_ret (v := .tuple #[.agg #[.int .i64 o, .int .i64 pg], .int .i64 0]) (by simp [results, Try.results26, go_sem, r0, r1]) rfl
        ⟨by rw [HG.out.2, HE.out, HO9.out, HP9.out], v7, by rw [HG.out.1]; exact ⟨HIL.out, by rw [hlm]; exact (HR7.out.other sA (by omega) (by omega)).other sL (by omega) (by omega), HVG.out, rb, cap, by rw [hlm]; exact hgb9, hrb9, HVR.out, HNE.out⟩, (((HMT.out.step (k := 2) (by unfold Kr; omega) (Stp.below HBD.out HPT.out.fr)).step (k := 2) (by unfold Kr; omega) HS7.out).step (k := 4) (by unfold Kr; omega) sA).step (k := 6) (by unfold Kr; omega) sL⟩
theorem refPut_any (h : Rlg w v S P B gb xb g) (hd : Dt w v (.slice A n c) l) (hn : n ≤ 4096) (hneed : need ≤ 1000) (hx1 : 1 ≤ g.next) (hx : g.next < 900000) (hM : g.M.length ≤ 80000) (hneed1 : 1 ≤ need) :
    Calls Try.prog 26 #[.pointer (some ⟨gb, 0, none⟩), .int .u8 (kind.toNat : Int), .slice A n c, .int .i64 need] w (RefPutTo S P B gb xb kind l need g w v) := by
  by_cases hr : refI P B kind l.length = 0
  · cases hroom : room P B l.length g
    · by_cases hc : cnt 0 g.st < need
      · by_cases hop : g.op < 0
        · exact refPut_shut_full h hd hn hneed hx1 hx hM hr hop hc
        · refine refPut_small_full h hd hn hneed hx1 hx hM hr (by omega) ?_ hc
          intro hf
          unfold room at hroom
          rw [decide_eq_true (by omega), decide_eq_true hf] at hroom
          cases hroom
      · by_cases hop : g.op < 0
        · exact refPut_shut_new h hd hn hneed hx1 hx hM hr hop hc hneed1
        · refine refPut_small_new h hd hn hneed hx1 hx hM hr (by omega) ?_ hc hneed1
          intro hf
          unfold room at hroom
          rw [decide_eq_true (by omega), decide_eq_true hf] at hroom
          cases hroom
    · exact refPut_room h hd hn hneed hx1 hx hM hr hroom
  · by_cases hk : kind = 1
    · exact refPut_one h hd hn hneed hx1 hx hM hk
    · refine refPut_long h hd hn hneed hx1 hx hM hk ?_
      by_cases hl : P < Fm.pages l.length B + 1
      · exact hl
      · exact absurd (by unfold refI; rw [if_neg hk, if_neg hl]) hr
end
end Go.Proofs.YtndbjdnfibpicaaR
