/-
  The program's log: begin, lay, the closure, Append, Move.
-/
import Derived.Test.YtndbjdnfibpicaaRLogSeal
import Derived.Test.YtndbjdnfibpicaaRSegAppend
namespace Go.Proofs.YtndbjdnfibpicaaR
open Go.ChangeShapes Go.WideShapes Go.ChangeAt Go.RowKit Fl Lo
set_option maxRecDepth 100000

section
variable {S P B lb db mb k : Nat} {w w' : World} {v v' : Nat → Nat} {g g' : Lg}
theorem k13_1 : K13 1 := by unfold K13; omega
theorem k13_3 : K13 3 := by unfold K13; omega
set_option maxHeartbeats 4000000 in
/-- the Opened segment is Sealed, and the least Free one Opened -/
theorem begin_any (h : Plg w v S P B lb db mb g) (hc : 0 < cnt 0 g.st) (hn : g.next < 1000000) (hM : g.M.length ≤ 90000) : Calls Try.prog 59 #[.pointer (some ⟨lb, 0, none⟩)] w fun e w' =>
    e = .returned (.int .i64 0) ∧ ∃ v', Plg w' v' S P B lb db mb (opened B g) ∧ Ms K13 w v w' v' := by
  obtain ⟨pg, hl, hpg⟩ := h.blk
  have ca := all_any hl h.dev
  have hS2 := h.inv.shp.s2
  have hix := h.inv.ixS hc
  have hfree := h.inv.free _ (ix_at hc).1
  have HI := Lib.hid (h.inv.opened hc)
  have HLB := Lib.hid hl
  have HD := Lib.hid h.dev
  have HV := Lib.hid h.vl
  have HLEN := Lib.hid h.inv.len
  have HIX1 := Lib.hid h.inv.ix1
  have HS4 := Lib.hid h.s4
  have HO : Hid (g.op = -1 ∨ (0 ≤ g.op ∧ g.op < (S : Int))) := Lib.hid (by
    rcases (by omega : g.op < 0 ∨ 0 ≤ g.op) with h0 | h0
    · exact .inl (h.inv.noneO h0).1
    · exact .inr ⟨h0, h.inv.opS h0⟩)
  have hii : ixI 0 g.st = (ix 0 g.st : Int) := by unfold ixI; rw [if_pos (by rw [h.inv.len]; exact hix)]
  have hop : opened B g = { st := (sealG g).st.set (ix 0 g.st) 1, op := (ix 0 g.st : Int), page := 1, next := g.next + 1, M := app (ix 0 g.st : Int) 0 B (Fm.frame 1 g.next []) 1 g.M } := rfl
  have hseal : (sealG g).st = if 0 ≤ g.op then g.st.set g.op.toNat 2 else g.st := rfl
  rw [hseal] at hop
  rw [hop] at HI ⊢
  obtain ⟨j, hj⟩ : ∃ j, j = ix 0 g.st := ⟨_, rfl⟩
  rw [← hj] at hix hfree hii HI ⊢
  have HFREE := Lib.hid hfree
  have hw1 : IntKind.u64.wrap ((g.next : Int) + 1) = ((g.next + 1 : Nat) : Int) := by rw [IntWalk.u64_in _ (by omega)]; omega
  have hj16 : (j : Int) < 16 := by omega
  have hsc := HD
  obtain ⟨st2, hst2⟩ : ∃ st2, st2 = (if 0 ≤ g.op then g.st.set g.op.toNat 2 else g.st) := ⟨_, rfl⟩
  rw [← hst2] at HI ⊢
  have HST2 := Lib.hid hst2
  have HL2 : Hid (st2.length = S) := Lib.hid (by rw [hst2]; split <;> (first | rw [List.length_set]; exact HLEN.out | exact HLEN.out))
  have hNN : g.next < 18446744073709551616 := by omega
  have hML : g.M.length ≤ 90000 := hM
  have HNX := Lib.hid (rfl : g.next = g.next)
  clear h hl hpg hc hop hseal hfree hst2 hj hsc
  go_enter Try.func59, Try.ntmps59
  go_wp2_with (first
    | (go_at_call 34; (with_reducible refine ca.mono ?_); rintro e w1 ⟨rfl, hb1⟩; have HB1 := Lib.hid hb1; have ci := index_any (some ⟨lb, 1, none⟩) S 16 g.st 0 w1 (HLB.out.vsS HLEN.out hb1) (by omega); rw [hii] at ci; clear hb1 ca)
    | (go_at_call 33; (with_reducible refine ci.mono ?_); rintro e w2 ⟨rfl, rfl⟩; clear ci))
  have hbd : Below w.heap.size w w1.drew := HB1.out.drew
  have HLD : Hid (Lb w1.drew lb db g.st pg g.next) := Lib.hid (HLB.out.kept (hbd.block lb HLB.out.lt))
  have HDD : Hid (Dev w1.drew v 1 S P B db mb g.M) := Lib.hid (HD.out.below hbd)
  have HP0 : Hid (w1.drew.cell? ⟨lb, 0, none⟩ = some (.pointer (some ⟨db, 0, none⟩)) ∧ w1.drew.cell? ⟨lb, 18, none⟩ = some (.int .u64 g.next)) := Lib.hid ⟨HLD.out.c0, HLD.out.c18⟩
  have cs := segStart_any HDD.out (by omega) (j : Int) (WalkArith.wf_i64 (by omega)) ⟨by omega, by omega⟩ g.next hNN (fun p2 => HFREE.out p2) hML
  go_region_held3 (fun W => W.cell? ⟨lb, 0, none⟩ = some (.pointer (some ⟨db, 0, none⟩)) ∧ W.cell? ⟨lb, 18, none⟩ = some (.int .u64 g.next))
    (first | exact HP0.out | exact HP1.out)
    ((first | (go_at_call 69; (with_reducible refine cs.mono ?_); rintro e w3 ⟨rfl, v3, hD3, hS3⟩; have HD3 := Lib.hid hD3; have HS3 := Lib.hid hS3; have HL3 : Hid (Lb w3 lb db g.st pg g.next) := Lib.hid (HLD.out.kept (hS3.block lb HLD.out.lt (by rw [HV.out]; omega))); have HP1 : Hid (w3.cell? ⟨lb, 0, none⟩ = some (.pointer (some ⟨db, 0, none⟩)) ∧ w3.cell? ⟨lb, 18, none⟩ = some (.int .u64 g.next)) := Lib.hid ⟨HL3.out.c0, HL3.out.c18⟩; clear cs hD3 hS3)))
  have HV3 : Hid (v3 lb = 3) := Lib.hid (by rw [HS3.out.same lb HLD.out.lt]; exact HV.out)
  have cq := seal_at HL3.out HD3.out HLEN.out HIX1.out HO.out HV3.out
  rw [← HST2.out] at cq
  go_wp2_with (go_at_call 29; (with_reducible refine cq.mono ?_); rintro e w4 ⟨rfl, hl4, hS4⟩; have HL4 := Lib.hid hl4; have HS4b := Lib.hid hS4; have hjl : j < st2.length := (by rw [HL2.out]; exact hix); have fx := hl4.froz (1 + j); have f17 := hl4.froz 17; have f18 := hl4.froz 18; obtain ⟨y, hy⟩ : ∃ y, st2[j]? = some y := ⟨_, List.getElem?_eq_getElem hjl⟩; have cx := hl4.cst hy; have c17 := hl4.c17; have c18 := hl4.c18; clear cq hl4 hS4 hy)
  go_ret
  have sA : Stp 3 w4 (w4.setCell ⟨lb, 1 + j, none⟩ (.int .i64 1)) v3 v3 := Stp.setCell (a := ⟨lb, 1 + j, none⟩) HV3.out _ HS4b.out.fresh
  have sB := Stp.setCell (a := ⟨lb, 17, none⟩) HV3.out (.int .i64 1) sA.fresh
  have sC := Stp.setCell (a := ⟨lb, 18, none⟩) HV3.out (.int .u64 ((g.next + 1 : Nat) : Int)) sB.fresh
  have sAll := HS4b.out.trans (sA.trans (sB.trans sC))
  exact ⟨rfl, v3, ⟨HI.out, HS4.out, HD3.out.other sAll (by omega) (by omega), HV3.out, 1, ((HL4.out.setSt hjl 1).setPage 1).setNext (g.next + 1), fun _ => rfl⟩, ((Ms.one k13_3 (Stp.below hbd HD.out.fr)).step k13_1 HS3.out).step k13_3 sAll⟩
/-- a place in a block of its own -/
def Ab (w : World) (n : Nat) (a b : Int) : Prop := w.heap[n]? = some (.cells #[.int .i64 a, .int .i64 b] 51 (0, 0))
section
variable {n : Nat} {a b : Int}
theorem Ab.new (w : World) (a b : Int) : Ab (w.alloc (.cells #[.int .i64 a, .int .i64 b] 51)) w.heap.size a b := heap_alloc_new w _
theorem Ab.lt (h : Ab w n a b) : n < w.heap.size := (Array.getElem?_eq_some_iff.1 h).1
theorem Ab.kept (h : Ab w n a b) (e : w'.heap[n]? = w.heap[n]?) : Ab w' n a b := e.trans h
theorem Ab.c0 (h : Ab w n a b) : w.cell? ⟨n, 0, none⟩ = some (.int .i64 a) := by unfold Ab at h; simp [World.cell?, h]
theorem Ab.c1 (h : Ab w n a b) : w.cell? ⟨n, 1, none⟩ = some (.int .i64 b) := by unfold Ab at h; simp [World.cell?, h]
theorem Ab.f0 (h : Ab w n a b) : w.frozen? ⟨n, 0, none⟩ = false := by unfold Ab at h; simp [World.frozen?, h]
theorem Ab.f1 (h : Ab w n a b) : w.frozen? ⟨n, 1, none⟩ = false := by unfold Ab at h; simp [World.frozen?, h]
theorem Ab.put (h : Ab w n a b) (x y : Int) : Ab ((w.setCell ⟨n, 0, none⟩ (.int .i64 x)).setCell ⟨n, 1, none⟩ (.int .i64 y)) n x y := by
  unfold Ab at h ⊢
  simp [World.setCell, Array.getElem?_modify, h]
theorem Ab.other (h : Ab w n a b) (ad : Addr) (u : Value) (hne : n ≠ ad.block) : Ab (w.setCell ad u) n a b := h.kept (Below.heap_setCell w ad u n hne)
end
set_option maxHeartbeats 4000000 in
/-- a record is written where the open segment goes on -/
theorem llay_any (h : Plg w v S P B lb db mb g) (h0 : 0 ≤ g.op) (kind : UInt8) (A : Option Addr) (n c : Nat) (l : List UInt8) (hd : Bs w w.heap.size A n l) (hn : n ≤ 4096) (hr : g.page + (Fm.pages l.length B : Int) ≤ (P : Int)) (hx1 : 1 ≤ g.next) (hx : g.next < 1000000) (hM : g.M.length ≤ 90000) :
    Calls Try.prog 60 #[.pointer (some ⟨lb, 0, none⟩), .int .u8 (kind.toNat : Int), .slice A n c] w fun e w' =>
      e = .returned (.tuple #[.agg #[.int .i64 g.op, .int .i64 g.page], .int .i64 0]) ∧ ∃ v', Plg w' v' S P B lb db mb (laid B kind l g) ∧ Ms K13 w v w' v' := by
  have hln := hd.len
  have HI := Lib.hid (h.inv.laid h0 kind l hr)
  have hlaid : laid B kind l g = { g with page := g.page + (Fm.pages l.length B : Int), M := app g.op g.page B (Fm.frame kind (g.next - 1) l) (Fm.pages l.length B) g.M } := rfl
  rw [hlaid] at HI ⊢
  obtain ⟨hp1, hms1⟩ := h.box (.cells #[.int .i64 0, .int .i64 0] 51) 3
  have t1 := Ab.new w 0 0
  have hopS := h.inv.opS h0
  obtain ⟨-, -, hpg1, hpgP⟩ := h.inv.someO h0
  have hS2 := h.inv.shp.s2
  have hP2 := h.inv.shp.p2
  have HBE := Lib.hid (h.inv.behind h0)
  rw [hln] at HI hr ⊢
  have hpos := pages_pos n (show 1 ≤ B by have := h.inv.shp.b1; omega)
  have HIB := Lib.hid h.inv
  obtain ⟨K, hK⟩ : ∃ K, K = Fm.pages n B := ⟨_, rfl⟩
  have HK := Lib.hid hK
  rw [← hK] at HI hr hpos ⊢
  obtain ⟨o, ho⟩ : ∃ o, o = g.op := ⟨_, rfl⟩
  obtain ⟨pg, hpg⟩ : ∃ pg, pg = g.page := ⟨_, rfl⟩
  have co := lopen_any hp1
  rw [← ho] at co HI ⊢
  rw [← hpg] at co hr HI ⊢
  rw [← ho] at hopS h0
  rw [← hpg] at hpg1 hpgP
  have HBE2 : Hid (∀ p : Int, pg ≤ p → lk g.M o p = none) := Lib.hid (by rw [ho, hpg]; exact HBE.out)
  have HLB : Hid (∃ pg2, Lb (w.alloc (.cells #[.int .i64 0, .int .i64 0] 51)) lb db g.st pg2 g.next ∧ pg2 = pg) := Lib.hid (by
    obtain ⟨pg2, a, b⟩ := hp1.blk
    exact ⟨pg2, a, by rw [b (by rw [← ho]; exact h0), hpg]⟩)
  have HP1 := Lib.hid hp1
  have HMS1 := Lib.hid hms1
  have HT1 := Lib.hid t1
  have hw1 : IntKind.u64.wrap ((g.next : Int) - 1) = ((g.next - 1 : Nat) : Int) := by rw [IntWalk.u64_in _ (by omega)]; omega
  have hw2 : IntKind.i64.wrap (pg + (K : Int)) = pg + (K : Int) := IntWalk.i64_in _ (by omega)
  obtain ⟨q, hq⟩ : ∃ q, q = g.next - 1 := ⟨_, rfl⟩
  rw [← hq] at hw1 HI ⊢
  have hq2 : q < 18446744073709551616 := by omega
  have HDB := Lib.hid hd
  have HX := Lib.hid hx
  have hML : g.M.length ≤ 90000 := hM
  clear h hd hp1 hms1 t1 hK ho hpg HBE hlaid hq hln
  go_enter Try.func60, Try.ntmps60
  go_wp2_with (go_at_call 10; (with_reducible refine co.mono ?_); rintro e w2 ⟨rfl, hb2⟩; have HB2 := Lib.hid hb2; clear hb2 co)
  have hbd : Below (w.alloc (.cells #[.int .i64 0, .int .i64 0] 51)).heap.size (w.alloc (.cells #[.int .i64 0, .int .i64 0] 51)) w2.drew := HB2.out.drew
  have HPD := Lib.hid (HP1.out.below hbd)
  have HTD : Hid (Ab w2.drew w.heap.size 0 0) := Lib.hid (HT1.out.kept (hbd.block _ HT1.out.lt))
  have HLD : Hid (Lb w2.drew lb db g.st pg g.next) := Lib.hid (by
    obtain ⟨pg2, a, rfl⟩ := HLB.out
    exact a.kept (hbd.block lb a.lt))
  have HP0 : Hid (w2.drew.cell? ⟨lb, 0, none⟩ = some (.pointer (some ⟨db, 0, none⟩)) ∧ w2.drew.cell? ⟨lb, 18, none⟩ = some (.int .u64 g.next)) := Lib.hid ⟨HLD.out.c0, HLD.out.c18⟩
  have hbw : Below w.heap.size w (w.alloc (.cells #[.int .i64 0, .int .i64 0] 51)) := below_new4 w _
  have hbs2 : Bs w2.drew w.heap.size A n l := HDB.out.below (hbw.trans (hbd.mono hbw.size))
  have ca := segAppend_any HPD.out.dev (by omega) o pg (WalkArith.wf_i64 (by omega)) ⟨h0, hopS⟩ (by omega) kind q hq2 A n c l w.heap.size hbs2 (Nat.le_trans hbw.size hbd.size) hn (by rw [← HK.out]; exact hr) (fun p2 hp => HBE2.out p2 hp) hML
  rw [← HK.out] at ca
  clear hbs2
  go_region_held3 (fun W => W.cell? ⟨lb, 0, none⟩ = some (.pointer (some ⟨db, 0, none⟩)) ∧ W.cell? ⟨lb, 18, none⟩ = some (.int .u64 g.next))
    (first | exact HP0.out | exact HP3.out)
    ((first | (go_at_call 70; (with_reducible refine ca.mono ?_); rintro e w3 ⟨rfl, v3, hD3, hS3⟩; have HD3 := Lib.hid hD3; have HS3 := Lib.hid hS3; have HL3 : Hid (Lb w3 lb db g.st pg g.next) := Lib.hid (HLD.out.kept (hS3.block lb HLD.out.lt (by rw [HPD.out.vl]; omega))); have HP3 : Hid (w3.cell? ⟨lb, 0, none⟩ = some (.pointer (some ⟨db, 0, none⟩)) ∧ w3.cell? ⟨lb, 18, none⟩ = some (.int .u64 g.next)) := Lib.hid ⟨HL3.out.c0, HL3.out.c18⟩; clear ca hD3 hS3)))
  have HT3 : Hid (Ab w3 w.heap.size 0 0) := Lib.hid (HTD.out.kept (HS3.out.block _ HTD.out.lt (by rw [paint_same]; omega)))
  have c17 := HL3.out.c17
  have f17 := HL3.out.froz 17
  have HNE : Hid (w.heap.size ≠ lb) := Lib.hid (by intro e; have h3 := HL3.out.c0; rw [← e, HT3.out.c0] at h3; cases h3)
  have hT5 := HT3.out.other ⟨lb, 17, none⟩ (.int .i64 (pg + (K : Int))) HNE.out
  have x0 := hT5.c0
  have x1 := hT5.c1
  have y0 := hT5.f0
  have y1 := hT5.f1
  clear hT5
  go_wp2
  obtain ⟨W5, hW5⟩ : ∃ W5, W5 = w3.setCell ⟨lb, 17, none⟩ (.int .i64 (pg + (K : Int))) := ⟨_, rfl⟩
  have hT5 : Ab W5 w.heap.size 0 0 := by rw [hW5]; exact HT3.out.other ⟨lb, 17, none⟩ (.int .i64 (pg + (K : Int))) HNE.out
  have hT6 := hT5.put o pg
  have z0 := hT6.c0
  have z1 := hT6.c1
  have vl3 : v3 lb = 3 := by rw [HS3.out.same lb HLD.out.lt]; exact HPD.out.vl
  have vn3 : v3 w.heap.size = 3 := by rw [HS3.out.same _ HTD.out.lt, paint_same]
  have sA : Stp 3 w3 W5 v3 v3 := by rw [hW5]; exact Stp.setCell (a := ⟨lb, 17, none⟩) vl3 _ HD3.out.fr
  have sB : Stp 3 W5 (W5.setCell ⟨w.heap.size, 0, none⟩ (.int .i64 o)) v3 v3 := Stp.setCell (a := ⟨w.heap.size, 0, none⟩) vn3 _ sA.fresh
  have sC := Stp.setCell (a := ⟨w.heap.size, 1, none⟩) vn3 (.int .i64 pg) sB.fresh
  have sAll := sA.trans (sB.trans sC)
  have hL5 : Lb W5 lb db g.st (pg + (K : Int)) g.next := by rw [hW5]; exact HL3.out.setPage _
  have hL6 := hL5.kept ((Below.heap_setCell _ ⟨w.heap.size, 1, none⟩ (.int .i64 pg) lb (Ne.symm HNE.out)).trans (Below.heap_setCell W5 ⟨w.heap.size, 0, none⟩ (.int .i64 o) lb (Ne.symm HNE.out)))
  rw [← hW5]
  exact bodyPost_ret (v := .tuple #[.agg #[.int .i64 o, .int .i64 pg], .int .i64 0]) (by simp [results, Try.results60, go_sem, z0, z1]) rfl
    ⟨rfl, v3, ⟨HI.out, HP1.out.s4, HD3.out.other sAll (by omega) (by omega), vl3, _, hL6, fun _ => rfl⟩, (((Ms.one k13_3 HMS1.out).step k13_3 (Stp.below hbd HP1.out.fr)).step k13_1 HS3.out).step k13_3 sAll⟩
end
end Go.Proofs.YtndbjdnfibpicaaR
