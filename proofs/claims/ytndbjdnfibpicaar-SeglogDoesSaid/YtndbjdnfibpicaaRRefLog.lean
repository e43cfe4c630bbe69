/-
  The document's log: Count, Seal, Erase, New.
-/
import Derived.Test.YtndbjdnfibpicaaRLogMem
import Derived.Test.YtndbjdnfibpicaaRFlashRefErase
import Derived.Test.YtndbjdnfibpicaaRLogNew
import Derived.Deep.QuietTactic
namespace Go.Proofs.YtndbjdnfibpicaaR
open Go.ChangeShapes Go.WideShapes Go.ChangeAt Go.RowKit Fl Lo
set_option maxRecDepth 100000

section
variable {S P B gb xb : Nat} {w w' : World} {v v' : Nat → Nat} {g g' : Lg}
theorem refCount_any (h : Rlg w v S P B gb xb g) (x : Int) : Calls Try.prog 15 #[.pointer (some ⟨gb, 0, none⟩), .int .i64 x] w fun e w' => e = .returned (.int .i64 (cnt x g.st : Int)) ∧ w = w' := by
  obtain ⟨rb, cap, h1, h2, -, -⟩ := h.blk
  have hS2 := h.inv.shp.s2
  have HL := Lib.hid h.inv.len
  obtain ⟨-, c1, -⟩ := h1.c
  have HR := Lib.hid h2
  clear h h1 h2
  go_enter Try.func15, Try.ntmps15
  go_wp2
  go_loopw [5, 7, 13] (fun n _ i wr => ∃ j m : Nat, j ≤ S ∧ m ≤ j ∧ i = .int .i64 j ∧ n = .int .i64 m ∧ Hid (m = cnt x (g.st.take j)) ∧ w = wr) (fun _ _ i _ => S - (intOf i).toNat)
  case atStart => exact ⟨0, 0, Nat.zero_le _, Nat.le_refl _, rfl, rfl, Lib.hid rfl, rfl⟩
  case round =>
    obtain ⟨j, m, hj, hmj, rfl, rfl, HM, rfl⟩ := hrel
    by_cases hlt : j < S
    · have hjl : j < g.st.length := by rw [HL.out]; exact hlt
      have HG := Lib.hid (List.getElem?_eq_getElem hjl)
      have HT := Lib.hid (cnt_take (x := x) hjl)
      generalize g.st[j] = y at HG HT
      have cx := HR.out.c HG.out
      clear hjl
      cases hb : (y == x)
      · have HM2 : Hid (m = cnt x (g.st.take (j + 1))) := Lib.hid (by rw [HT.out, hb, ← HM.out]; rfl)
        go_wp2
        go_roundw
        case rel => exact ⟨j + 1, m, by omega, by omega, by go_num, rfl, HM2, by first | rfl | trivial⟩
        case measure => simp [intOf]; omega
      · have HM2 : Hid (m + 1 = cnt x (g.st.take (j + 1))) := Lib.hid (by rw [HT.out, hb, ← HM.out]; rfl)
        go_wp2
        go_roundw
        case rel => exact ⟨j + 1, m + 1, by omega, by omega, by go_num, by go_num, HM2, by first | rfl | trivial⟩
        case measure => simp [intOf]; omega
    · obtain rfl : j = S := by omega
      have HM2 : Hid (m = cnt x g.st) := Lib.hid (by have := HM.out; rwa [List.take_of_length_le (by rw [HL.out]; exact Nat.le_refl _)] at this)
      go_wp2
      go_ret
      exact ⟨by rw [← HM2.out]; rfl, rfl⟩
/-- the log's own blocks are others -/
theorem Rlg.turn (h : Rlg w v S P B gb xb g) (hs : Stp 4 w w' v v') (hM : g'.M = g.M) (hi : Inv S P B g') {rb cap : Nat} (hb : Gb w' gb xb rb S cap g'.op g'.page g'.next) (hr : Rb w' rb g'.st) (hv : v' rb = 4) (hne : rb ≠ gb) : Rlg w' v' S P B gb xb g' := by
  obtain ⟨rb0, cap0, h1, _⟩ := h.blk
  exact ⟨hi, by rw [hM]; exact h.rdv.other hs (by omega) (by omega), by rw [hs.same _ h1.lt]; exact h.vg, rb, cap, hb, hr, hv, hne⟩
set_option maxHeartbeats 2000000 in
theorem refLseal_any (h : Rlg w v S P B gb xb g) : Calls Try.prog 30 #[.pointer (some ⟨gb, 0, none⟩)] w fun e w' => e = .returned (.tuple #[]) ∧ Rlg w' v S P B gb xb (sealG g) ∧ Stp 4 w w' v v := by
  obtain ⟨rb, cap, h1, h2, h3, h4⟩ := h.blk
  have HG := Lib.hid h
  have HGB := Lib.hid h1
  have HRB := Lib.hid h2
  have HV := Lib.hid h3
  have HNE := Lib.hid h4
  obtain ⟨-, c1, c2, c3, -⟩ := h1.c
  have f2 := h1.f 2
  have f3 := h1.f 3
  rcases (by omega : g.op < 0 ∨ 0 ≤ g.op) with h0 | h0
  · have e0 : decide ((0 : Int) ≤ g.op) = false := decide_eq_false (by omega)
    have HST : Hid ((sealG g).st = g.st) := Lib.hid (by show (if 0 ≤ g.op then g.st.set g.op.toNat 2 else g.st) = _; rw [if_neg (by omega)])
    clear h h1 h2 h3 h4 h0
    go_enter Try.func30, Try.ntmps30
    go_wp2
    go_end0
    have sA : Stp 4 w (w.setCell ⟨gb, 2, none⟩ (.int .i64 (-1))) v v := Stp.setCell (a := ⟨gb, 2, none⟩) HG.out.vg _ HG.out.fr
    have sB := sA.trans (Stp.setCell (a := ⟨gb, 3, none⟩) HG.out.vg (.int .i64 0) sA.fresh)
    refine ⟨rfl, HG.out.turn (g' := sealG g) sB rfl HG.out.inv.sealG ((HGB.out.setOp (-1)).setPage 0) ?_ HV.out HNE.out, sB⟩
    rw [HST.out]
    exact HRB.out.kept ((Below.heap_setCell _ ⟨gb, 3, none⟩ _ rb HNE.out).trans (Below.heap_setCell w ⟨gb, 2, none⟩ _ rb HNE.out))
  · have hopS := h.inv.opS h0
    have hlen := h.inv.len
    obtain ⟨j, hj⟩ : ∃ j : Nat, g.op = j := ⟨g.op.toNat, by omega⟩
    have e0 : decide ((0 : Int) ≤ (j : Int)) = true := decide_eq_true (by omega)
    have HST : Hid ((sealG g).st = g.st.set j 2) := Lib.hid (by show (if 0 ≤ g.op then g.st.set g.op.toNat 2 else g.st) = _; rw [if_pos h0, hj, Int.toNat_natCast])
    have hjl : j < g.st.length := by omega
    have HJ := Lib.hid hjl
    have HQ := Lib.hid (List.getElem?_eq_getElem hjl)
    generalize g.st[j] = y at HQ
    have cy := h2.c HQ.out
    have fy := h2.f j
    rw [hj] at c2
    have hjS : (j : Int) < (S : Int) := by omega
    have hS2 := h.inv.shp.s2
    have HX2 : Hid (∀ u, (w.setCell ⟨rb, j, none⟩ u).cell? ⟨gb, 2, none⟩ = some (.int .i64 (j : Int)) ∧ (w.setCell ⟨rb, j, none⟩ u).frozen? ⟨gb, 2, none⟩ = false ∧ (w.setCell ⟨rb, j, none⟩ u).cell? ⟨gb, 3, none⟩ = some (.int .i64 g.page) ∧ (w.setCell ⟨rb, j, none⟩ u).frozen? ⟨gb, 3, none⟩ = false) := Lib.hid (fun u => by
      have hk := HGB.out.kept (Below.heap_setCell w ⟨rb, j, none⟩ u gb (Ne.symm HNE.out))
      obtain ⟨-, -, a, b, -⟩ := hk.c
      rw [hj] at a
      exact ⟨a, hk.f 2, b, hk.f 3⟩)
    clear h h1 h2 h3 h4 h0 hjl hlen
    go_enter Try.func30, Try.ntmps30
    go_wp2
    go_region
    obtain ⟨x2, x3, x4, x5⟩ := HX2.out (.int .i64 2)
    have hx2 : (w.setCell ⟨rb, j, none⟩ (.int .i64 2)).drew.cell? ⟨gb, 2, none⟩ = some (.int .i64 (j : Int)) := x2
    have hx3 : (w.setCell ⟨rb, j, none⟩ (.int .i64 2)).drew.frozen? ⟨gb, 2, none⟩ = false := x3
    have hx4 : (w.setCell ⟨rb, j, none⟩ (.int .i64 2)).drew.cell? ⟨gb, 3, none⟩ = some (.int .i64 g.page) := x4
    have hx5 : (w.setCell ⟨rb, j, none⟩ (.int .i64 2)).drew.frozen? ⟨gb, 3, none⟩ = false := x5
    have sA : Stp 4 w (w.setCell ⟨rb, j, none⟩ (.int .i64 2)).drew v v := (Stp.setCell (a := ⟨rb, j, none⟩) HV.out _ HG.out.fr).drew
    have hgb : Gb (w.setCell ⟨rb, j, none⟩ (.int .i64 2)).drew gb xb rb S cap (j : Int) g.page g.next := by
      have hk := HGB.out.kept (Below.heap_setCell w ⟨rb, j, none⟩ (.int .i64 2) gb (Ne.symm HNE.out))
      rw [hj] at hk
      exact hk
    have hrb : Rb (w.setCell ⟨rb, j, none⟩ (.int .i64 2)).drew rb (g.st.set j 2) := HRB.out.set HJ.out 2
    have SA := Lib.hid sA
    have HGB1 := Lib.hid hgb
    have HRB1 := Lib.hid hrb
    clear x2 x3 x4 x5 sA hgb hrb
    generalize (w.setCell ⟨rb, j, none⟩ (.int .i64 2)).drew = W1 at *
    go_wp2
    go_end0
    have sB : Stp 4 W1 (W1.setCell ⟨gb, 2, none⟩ (.int .i64 (-1))) v v := Stp.setCell (a := ⟨gb, 2, none⟩) HG.out.vg _ SA.out.fresh
    have sC := SA.out.trans (sB.trans (Stp.setCell (a := ⟨gb, 3, none⟩) HG.out.vg (.int .i64 0) sB.fresh))
    refine ⟨rfl, HG.out.turn (g' := sealG g) sC rfl HG.out.inv.sealG ((HGB1.out.setOp (-1)).setPage 0) ?_ HV.out HNE.out, sC⟩
    rw [HST.out]
    exact HRB1.out.kept ((Below.heap_setCell _ ⟨gb, 3, none⟩ _ rb HNE.out).trans (Below.heap_setCell W1 ⟨gb, 2, none⟩ _ rb HNE.out))
set_option maxHeartbeats 2000000 in
theorem refLerase_any (h : Rlg w v S P B gb xb g) (s : Int) (hM : g.M.length ≤ 90000) : Calls Try.prog 28 #[.pointer (some ⟨gb, 0, none⟩), .int .i64 s] w fun e w' => e = .returned (.int .i64 (eraseErr S s g)) ∧ ∃ v', Rlg w' v' S P B gb xb (eraseG S s g) ∧ Ms Kr w v w' v' := by
  obtain ⟨rb, cap, h1, h2, h3, h4⟩ := h.blk
  have HG := Lib.hid h
  have HGB := Lib.hid h1
  have HRB := Lib.hid h2
  have HV := Lib.hid h3
  have HNE := Lib.hid h4
  have HI := Lib.hid (h.inv.erase s)
  obtain ⟨c0, c1, c2, c3, -⟩ := h1.c
  have hS2 := h.inv.shp.s2
  unfold eraseErr
  by_cases hin : 0 ≤ s ∧ s < (S : Int)
  · rw [if_pos hin]
    obtain ⟨j, rfl⟩ : ∃ j : Nat, s = j := ⟨s.toNat, by omega⟩
    have e0 : decide ((j : Int) < 0) = false := decide_eq_false (by omega)
    have e1 : decide ((S : Int) ≤ (j : Int)) = false := decide_eq_false (by omega)
    have e2 : decide (S ≤ j) = false := decide_eq_false (by omega)
    have hj : j < g.st.length := by rw [h.inv.len]; omega
    have hjS : (j : Int) < (S : Int) := hin.2
    have HJ := Lib.hid hj
    have hj1 : g.st[j]? = some 1 ↔ g.op = (j : Int) := by
      constructor
      · intro e
        rcases (by omega : g.op < 0 ∨ 0 ≤ g.op) with q | q
        · exact absurd e ((h.inv.noneO q).2.2 _)
        · exact ((h.inv.someO q).2.1 _ e).symm
      · intro e
        have := (h.inv.someO (by omega)).1
        rw [e, Int.toNat_natCast] at this
        exact this
    have HQ := Lib.hid (List.getElem?_eq_getElem hj)
    generalize g.st[j] = y at HQ
    rw [HQ.out] at hj1
    have cy := h2.c HQ.out
    by_cases ho : g.op = (j : Int)
    · rw [if_pos ho]
      obtain rfl : y = 1 := by have := hj1.2 ho; injection this
      have HE : Hid (eraseG S (j : Int) g = g) := Lib.hid (by unfold eraseG eraseErr; rw [if_pos hin, if_pos ho, if_neg (by omega)])
      clear h h1 h2 h3 h4 hj hj1 ho hin
      go_enter Try.func28, Try.ntmps28
      go_wp2
      go_ret
      exact ⟨rfl, v, by rw [HE.out]; exact HG.out, .refl⟩
    · rw [if_neg ho]
      have hy : (y == 1) = false := by
        rw [beq_eq_false_iff_ne]
        intro e
        exact ho (hj1.1 (by rw [e]))
      have HE : Hid (eraseG S (j : Int) g = { g with st := g.st.set j 0, M := erase (j : Int) g.M }) := Lib.hid (by unfold eraseG eraseErr; rw [if_pos hin, if_neg ho, if_pos rfl, Int.toNat_natCast])
      rw [HE.out]
      rw [HE.out] at HI
      have ce := refErase_any h.rdv (by omega) (j : Int) (by omega)
      clear h h1 h2 h3 h4 hj hj1 ho hin HE
      go_enter Try.func28, Try.ntmps28
      go_wp2_with (go_at_call 52; (with_reducible refine ce.mono ?_); rintro e w3 ⟨rfl, v3, hR3, hS3⟩; have HR3 := Lib.hid hR3; have HS3 := Lib.hid hS3; have hg3 := HGB.out.kept (hS3.block gb HGB.out.lt (by rw [HG.out.vg]; omega)); have hr3 := HRB.out.kept (hS3.block rb HRB.out.lt (by rw [HV.out]; omega)); have HG3 := Lib.hid hg3; have HRB3 := Lib.hid hr3; obtain ⟨d0, d1, -⟩ := hg3.c; have dy := hr3.c HQ.out; have fy := hr3.f j; clear ce hR3 hS3 hg3 hr3 c0 c1 c2 c3)
      go_ret
      have hv3 : v3 rb = 4 := by rw [HS3.out.same _ HRB.out.lt]; exact HV.out
      have sB : Stp 4 w3 (w3.setCell ⟨rb, j, none⟩ (.int .i64 0)) v3 v3 := Stp.setCell (a := ⟨rb, j, none⟩) hv3 _ HR3.out.fr
      exact ⟨rfl, v3, ⟨HI.out, HR3.out.other sB (by omega) (by omega), by rw [HS3.out.same _ HGB.out.lt]; exact HG.out.vg, rb, cap, HG3.out.kept (Below.heap_setCell w3 ⟨rb, j, none⟩ _ gb (Ne.symm HNE.out)), HRB3.out.set HJ.out 0, hv3, HNE.out⟩,
        (Ms.one (k := 2) (by unfold Kr; omega) HS3.out).step (k := 4) (by unfold Kr; omega) sB⟩
  · rw [if_neg hin]
    have HE : Hid (eraseG S s g = g) := Lib.hid (by unfold eraseG eraseErr; rw [if_neg hin, if_neg (by omega)])
    rcases (by omega : s < 0 ∨ (0 ≤ s ∧ (S : Int) ≤ s)) with h0 | ⟨h0, hS⟩
    · have e0 : decide (s < 0) = true := decide_eq_true h0
      clear h h1 h2 h3 h4 hin
      go_enter Try.func28, Try.ntmps28
      go_wp2
      go_ret
      exact ⟨rfl, v, by rw [HE.out]; exact HG.out, .refl⟩
    · have e0 : decide (s < 0) = false := decide_eq_false (by omega)
      have e1 : decide ((S : Int) ≤ s) = true := decide_eq_true hS
      clear h h1 h2 h3 h4 hin
      go_enter Try.func28, Try.ntmps28
      go_wp2
      go_ret
      exact ⟨rfl, v, by rw [HE.out]; exact HG.out, .refl⟩
/-- a log of the document's, just made -/
def RefNewTo (S P B : Nat) (w : World) (v : Nat → Nat) (e : Ending) (w' : World) : Prop :=
  ∃ gb xb v', e = .returned (.pointer (some ⟨gb, 0, none⟩)) ∧ Rlg w' v' S P B gb xb (g0 S) ∧ Ms Kr w v w' v'
theorem int_info : (Try.prog.info? 3).map (fun i => (i.zero, i.size, i.bytes)) = some (some (.int .i64 0), 1, 8) := by kernel_rfl
theorem own_lenB {w : World} {base T size n : Nat} {u : Value} {xs : List Value} (h : w.ownsRow base T size u n xs) : ∃ A c, u = .slice A n c := by
  rcases h.2 with ⟨rfl, h0⟩ | ⟨g, c, cur, rfl, _⟩
  · exact ⟨none, 0, by rw [h0]⟩
  · exact ⟨_, _, rfl⟩
/-- three blocks, made one behind the other -/
theorem three_born (w W3 : World) (c1 c2 c3 : Array Value) (T1 T2 T3 : TypeId) (h : W3 = ((w.alloc (.cells c1 T1)).alloc (.cells c2 T2)).alloc (.cells c3 T3)) :
    W3.heap[w.heap.size]? = some (.cells c1 T1 (0, 0)) ∧ W3.heap[w.heap.size + 1]? = some (.cells c2 T2 (0, 0)) ∧ W3.heap[w.heap.size + 1 + 1]? = some (.cells c3 T3 (0, 0)) := by
  subst h
  have s1 : (w.alloc (.cells c1 T1)).heap.size = w.heap.size + 1 := by simp
  have s2 : ((w.alloc (.cells c1 T1)).alloc (.cells c2 T2)).heap.size = w.heap.size + 1 + 1 := by simp
  have a1 := heap_alloc_new w (.cells c1 T1)
  have a2 := heap_alloc_new (w.alloc (.cells c1 T1)) (.cells c2 T2)
  have a3 := heap_alloc_new ((w.alloc (.cells c1 T1)).alloc (.cells c2 T2)) (.cells c3 T3)
  rw [s1] at a2
  rw [s2] at a3
  have b2 := (below_new4 ((w.alloc (.cells c1 T1)).alloc (.cells c2 T2)) (.cells c3 T3))
  have b1 := (below_new4 (w.alloc (.cells c1 T1)) (.cells c2 T2))
  exact ⟨(b2.block _ (by omega)).trans ((b1.block _ (by omega)).trans a1), (b2.block _ (by omega)).trans a2, a3⟩
set_option maxHeartbeats 4000000 in
theorem refNew_any (hs : Shp S P B) (hf : Fr w v) : Calls Try.prog 24 #[.agg #[.int .i64 S, .int .i64 P, .int .i64 B]] w (RefNewTo S P B w v) := by
  obtain ⟨i0, hi, hz, hsz, hby⟩ := info_parts int_info
  have HI := Lib.hid hi
  have HZ := Lib.hid hz
  have HSZ := Lib.hid hsz
  have HBY := Lib.hid hby
  have hs1 := hs.s1
  have hs2 := hs.s2
  have HSH := Lib.hid hs
  have HF := Lib.hid hf
  clear hi hz hsz hby hs hf
  go_enter Try.func24, Try.ntmps24
  go_wp2
  obtain ⟨W3, hW3⟩ : ∃ W3, W3 = (((w.alloc (.cells #[.int .i64 S, .int .i64 P, .int .i64 B] 23)).alloc (.cells #[.int .i64 S, .int .i64 P, .int .i64 B, .slice none 0 0] 75)).alloc (.cells #[.pointer (some ⟨w.heap.size + 1, 0, none⟩), .slice none 0 0, .int .i64 (-1), .int .i64 0, .int .u64 1] 42)) := ⟨_, rfl⟩
  rw [← hW3]
  have hsz : W3.heap.size = w.heap.size + 3 := by rw [hW3]; simp
  have hb : Below w.heap.size w W3 := by rw [hW3]; exact (((Below.refl _ w).alloc (Nat.le_refl _) _).alloc (by simp) _).alloc (by simp; omega) _
  obtain ⟨hg1, hg2, hg3⟩ := three_born w W3 _ _ _ _ _ _ hW3
  clear hW3
  have HSZ3 := Lib.hid hsz
  have HB3 := Lib.hid hb
  have HG1 := Lib.hid hg1
  have HG2 := Lib.hid hg2
  have HG3 := Lib.hid hg3
  clear hsz hb hg1 hg2 hg3
  go_loopw [4] (fun i wr => ∃ (j : Nat) (A : Option Addr) (c : Nat), j ≤ S ∧ i = .int .i64 j ∧ Hid (wr.heap[w.heap.size + 1 + 1]? = some (.cells #[.pointer (some ⟨w.heap.size + 1, 0, none⟩), .slice A j c, .int .i64 (-1), .int .i64 0, .int .u64 1] 42 (0, 0))) ∧ Hid (wr.ownsRow W3.heap.size 3 1 (.slice A j c) j (nums .i64 (List.replicate j 0))) ∧ Hid (∀ q, q < W3.heap.size → q ≠ w.heap.size + 1 + 1 → wr.heap[q]? = W3.heap[q]?) ∧ Hid (Below w.heap.size w wr) ∧ W3.heap.size ≤ wr.heap.size) (fun i _ => S - (intOf i).toNat)
  case atStart => exact ⟨0, none, 0, Nat.zero_le _, rfl, HG3, Lib.hid (World.ownsRow_nil _ _ _ _), Lib.hid (fun _ _ _ => rfl), HB3, Nat.le_refl _⟩
  case round =>
    obtain ⟨j, A, c, hj, rfl, HGR, HO, HQ, HB, hsw⟩ := hrel
    have hgr := HGR.out
    have c1 : wr.cell? ⟨w.heap.size + 1 + 1, 1, none⟩ = some (.slice A j c) := by simp [World.cell?, hgr]
    have f1 : wr.frozen? ⟨w.heap.size + 1 + 1, 1, none⟩ = false := by simp [World.frozen?, hgr]
    have hs0 : wr.cell? ⟨w.heap.size, 0, none⟩ = some (.int .i64 (S : Int)) := by
      have := (HQ.out w.heap.size (by have := HSZ3.out; omega) (by omega)).trans HG1.out
      simp [World.cell?, this]
    have hlt2 : w.heap.size + 1 + 1 < wr.heap.size := by have := HSZ3.out; omega
    clear hgr
    by_cases hlt : j < S
    · have hltI : (j : Int) < (S : Int) := by omega
      have HOa := Lib.hid (HO.out.alloc (.cells #[.int .i64 0] 3))
      have HAB : Hid (∀ b, (Value.slice A j c).ownBlock = some b → W3.heap.size ≤ b) := Lib.hid fun b hb => (HO.out.lt b hb).1
      have k1 : (wr.alloc (.cells #[.int .i64 0] 3)).cell? ⟨w.heap.size + 1 + 1, 1, none⟩ = some (.slice A j c) := ((below_new4 wr _).cell (p := ⟨w.heap.size + 1 + 1, 1, none⟩) hlt2).trans c1
      have K1 := Lib.hid k1
      have F1 : Hid ((wr.alloc (.cells #[.int .i64 0] 3)).frozen? ⟨w.heap.size + 1 + 1, 1, none⟩ = false) := Lib.hid (((below_new4 wr (.cells #[.int .i64 0] 3)).frozen (p := ⟨w.heap.size + 1 + 1, 1, none⟩) hlt2).trans f1)
      have HNB : Hid (some (w.heap.size + 1 + 1) ≠ (Value.slice A j c).ownBlock) := Lib.hid fun e => by
        have h3 := HAB.out _ e.symm
        have := HSZ3.out
        omega
      have HL2 := Lib.hid hlt2
      have HSW := Lib.hid hsw
      clear k1 hlt2
      go_wp2_with (at_builtin; refine wpList_append_vals (o := ⟨some 22, _, _, _, _, _⟩) rfl (.tmp 20) (.tmp 21) 39 rfl W3.heap.size 3 i0 (.int .i64 0) 8 Try.underlying39 HI.out HZ.out HSZ.out HBY.out rfl _ j _ rfl HOa.out (wr.heap.size + 1) (some ⟨wr.heap.size, 0, none⟩) 1 1 [.int .i64 0] rfl (Vs.new wr _ _ #[.int .i64 0]) (by intro u hu; simp at hu; rw [hu]; rfl) (by omega) (by omega) (by have := HSW.out; simp; omega) ?_; intro v5 w5 HO5 HG5; obtain ⟨A5, c5, rfl⟩ := own_lenB HO5.out; have x1 := HG5.out.cell K1.out HNB.out; have y1 := (HG5.out.frozen_far ⟨w.heap.size + 1 + 1, 1, none⟩ (by have := HL2.out; simp; omega) (fun e => HNB.out e)).trans F1.out)
      go_roundw
      case rel =>
        have hrowlt : ∀ b, (Value.slice A5 (j + 1) c5).ownBlock = some b → W3.heap.size ≤ b := fun b hb => (HO5.out.lt b hb).1
        have hgrow : (wr.alloc (.cells #[.int .i64 0] 3)).grownBy w5 (Value.slice A j c).ownBlock := HG5.out
        have hszA : (wr.alloc (.cells #[.int .i64 0] 3)).heap.size = wr.heap.size + 1 := by simp
        have h3 := HSZ3.out
        have hw := HSW.out
        have hblk : ∀ q, q < W3.heap.size → w5.heap[q]? = wr.heap[q]? := fun q hq =>
          (hgrow.block q (by omega) (fun e => by have := HAB.out q e.symm; omega)).trans ((below_new4 wr _).block q (by omega))
        have e5 := (hblk (w.heap.size + 1 + 1) (by omega)).trans HGR.out
        refine ⟨j + 1, A5, c5, by omega, by go_num, Lib.hid ?_, Lib.hid ?_, Lib.hid ?_, Lib.hid ?_, ?_⟩
        · simp [World.setCell, Array.getElem?_modify, e5]
        · have ho := ownsRow_setCell_other HO5.out (a := ⟨w.heap.size + 1 + 1, 1, none⟩) (fun e => by have := hrowlt _ e; dsimp only at this; omega) (.slice A5 (j + 1) c5)
          rw [show nums .i64 (List.replicate (j + 1) 0) = nums .i64 (List.replicate j 0) ++ [.int .i64 0] by simp [nums, List.replicate_succ']]
          exact ho
        · intro q hq hne
          rw [Below.heap_setCell w5 ⟨w.heap.size + 1 + 1, 1, none⟩ _ q hne, hblk q hq]
          exact HQ.out q hq hne
        · exact ((HB.out.alloc HB.out.size _).grown hgrow (by have := HB.out.size; omega) (fun q hq => by have := HAB.out q hq; omega)).setCell (by show w.heap.size ≤ w.heap.size + 1 + 1; omega) _
        · have := hgrow.size
          have e : (w5.setCell ⟨w.heap.size + 1 + 1, 1, none⟩ (.slice A5 (j + 1) c5)).heap.size = w5.heap.size := by simp [World.setCell]
          rw [e]; omega
      case measure => simp [intOf]; omega
    · obtain rfl : j = S := by omega
      go_wp2
      go_ret
      rcases HO.out.2 with ⟨_, h0⟩ | ⟨rb, cap, cur, he, hge, hcur, hnc, hml, hcs, htk⟩
      · omega
      injection he with he1 he2 he3
      subst he1 he3
      have h3 := HSZ3.out
      have hb := HB.out
      have hrbl : rb < wr.heap.size := (Array.getElem?_eq_some_iff.1 hcur).1
      obtain ⟨v1, hv1⟩ : ∃ v1, v1 = paint (paint (paint v (w.heap.size + 1) 2) (w.heap.size + 1 + 1) 4) rb 4 := ⟨_, rfl⟩
      have st : Stp 4 w wr v v1 := by rw [hv1]; exact (((Stp.below hb HF.out).paint 2 (by omega) (by omega)).paint 4 (by omega) (by omega)).paint 4 (by omega) hrbl
      have x1 : v1 (w.heap.size + 1) = 2 := by rw [hv1, paint_other (by omega), paint_other (by omega), paint_same]
      have x2 : v1 (w.heap.size + 1 + 1) = 4 := by rw [hv1, paint_other (by omega), paint_same]
      have x3 : v1 rb = 4 := by rw [hv1, paint_same]
      have hxb : wr.heap[w.heap.size + 1]? = some (.cells #[.int .i64 j, .int .i64 P, .int .i64 B, nl] 75 (0, 0)) := (HQ.out _ (by omega) (by omega)).trans HG2.out
      refine ⟨w.heap.size + 1 + 1, w.heap.size + 1, v1, rfl, ⟨g0_inv HSH.out, ⟨HSH.out, ⟨fun q hq => (nomatch hq), List.Pairwise.nil⟩, st.fresh, x1, ⟨nl, [], hxb, rfl, World.ownsRow_nil _ _ _ _, fun b hb => (nomatch hb), fun q hq => (nomatch hq)⟩⟩, x2, rb, c, HGR.out, ⟨cur, hcur, fun i x hi => ?_⟩, x3, by omega⟩, Ms.one (k := 4) (by unfold Kr; omega) st⟩
      have hi2 := (List.getElem?_eq_some_iff.1 hi).1
      have hi3 : i < j := by simpa [g0] using hi2
      have hc := HO.out.cellAt i (by omega)
      rw [cell_of_row wr rb i cur _ _ hcur] at hc
      rw [hc]
      have : (g0 j).st = List.replicate j 0 := rfl
      rw [this] at hi
      unfold nums
      rw [List.getElem?_map, hi]
      rfl
end
end Go.Proofs.YtndbjdnfibpicaaR
