/-
  The program's log: all, Open, State, Count, Next, Device, fits, refusal.
-/
import Derived.Test.YtndbjdnfibpicaaRLogMem
import Derived.Test.YtndbjdnfibpicaaRLogIndex
import Derived.Test.YtndbjdnfibpicaaRSegFits
import Derived.BigQuiet
import Derived.Deep.RegionHeld3
import Derived.Laws.Slices
namespace Go.Proofs.YtndbjdnfibpicaaR
open Go.ChangeShapes Go.WideShapes Go.ChangeAt Go.RowKit Fl Lo
set_option maxRecDepth 100000

section
variable {S P B lb db mb k : Nat} {w w' : World} {v : Nat → Nat} {g : Lg} {M : List Pg} {st : List Int} {pg : Int} {next : Nat}
theorem arr16 : Try.prog.underlying 70 = some (.array 16 3) := by kernel_rfl
theorem slice_all (lb : Nat) {S : Nat} (hS : S ≤ 16) (w : World) : (Instr.sliceAt 70 (.pointer (some ⟨lb, 1, none⟩)) none (some (.int .i64 (S : Int))) none).run Try.prog w = .ok (.slice (some ⟨lb, 1, none⟩) S 16) w := by
  have hl : Try.prog.arrayLen 70 = 16 := by kernel_rfl
  have he : Try.prog.elem 70 = 3 := by kernel_rfl
  have hz : (sizeOf 3).run Try.prog w = .ok 1 w := by kernel_rfl
  have h := run_sliceAt_array_h (P := Try.prog) w 70 (a := ⟨lb, 1, none⟩) (ht := by rw [hl, he]; exact arr16) .i64 (S : Int) (by omega) (by rw [hl]; omega)
  rw [h, he, hz, hl]
  simp [Result.andThen, slicedAt, Addr.add]
/-- the states of the segments that there are -/
theorem all_any (h : Lb w lb db st pg next) (hd : Dev w v k S P B db mb M) : Calls Try.prog 34 #[.pointer (some ⟨lb, 0, none⟩)] w fun e w' => e = .returned (.slice (some ⟨lb, 1, none⟩) S 16) ∧ Below w.heap.size w w' := by
  have HD := Lib.hid hd
  have c0 := h.c0
  have hS := hd.shp.s2
  have HL := Lib.hid h
  clear h hd
  go_enter Try.func34, Try.ntmps34
  have hsl := slice_all lb hS
  have hsg := shape_seg S P B
  have HP0 : Hid (w.drew.cell? ⟨lb, 0, none⟩ = some (.pointer (some ⟨db, 0, none⟩))) := Lib.hid c0
  have hbd : Below w.heap.size w w.drew := (Below.refl _ _).drew
  have cs := shape_any (HD.out.below hbd)
  go_wp2
  go_region_held3 (fun W => W.cell? ⟨lb, 0, none⟩ = some (.pointer (some ⟨db, 0, none⟩)))
    (first | exact HP0.out | exact HP1.out)
    ((first | (go_at_call 21; (with_reducible refine cs.mono ?_); rintro e w1 ⟨rfl, hb1⟩; have HB1 := Lib.hid (hbd.trans (hb1.mono hbd.size)); have HP1 : Hid (w1.cell? ⟨lb, 0, none⟩ = some (.pointer (some ⟨db, 0, none⟩))) := Lib.hid ((HL.out.kept (HB1.out.block lb HL.out.lt)).c0); clear hb1 cs)))
  go_wp2
  go_ret
  exact ⟨rfl, HB1.out⟩
/-- the states, in each world behind -/
theorem Plg.vs (h : Plg w v S P B lb db mb g) {W : World} (hb : Below w.heap.size w W) : Vs W W.heap.size (some ⟨lb, 1, none⟩) S (nums .i64 g.st) := by
  obtain ⟨pg, h1, _⟩ := (h.below hb).blk
  have := h1.vs
  rw [h.inv.len] at this
  exact this
theorem Lb.vsS (h : Lb w lb db st pg next) (hlen : st.length = S) {W : World} (hb : Below w.heap.size w W) : Vs W W.heap.size (some ⟨lb, 1, none⟩) S (nums .i64 st) := by
  have := (h.kept (hb.block lb h.lt)).vs
  rw [hlen] at this
  exact this
/-- which segment is open, and its next page -/
theorem open_at (hl : Lb w lb db st pg next) (hd : Dev w v k S P B db mb M) (hlen : st.length = S) {o p : Int} (hix : ixI 1 st = o) (hp : (o = -1 ∧ p = 0) ∨ (0 ≤ o ∧ pg = p)) :
    Calls Try.prog 10 #[.pointer (some ⟨lb, 0, none⟩)] w fun e w' => e = .returned (.tuple #[.int .i64 o, .int .i64 p]) ∧ Below w.heap.size w w' := by
  have ca := all_any hl hd
  have hS2 := hd.shp.s2
  have HP := Lib.hid (fun W (hb : Below w.heap.size w W) => Lb.vsS hl hlen hb)
  rcases hp with ⟨rfl, rfl⟩ | ⟨h0, rfl⟩
  · clear hl hd hlen
    go_enter Try.func10, Try.ntmps10
    go_wp2_with (first
      | (go_at_call 34; (with_reducible refine ca.mono ?_); rintro e w1 ⟨rfl, hb1⟩; have HB1 := Lib.hid hb1; have ci := index_any (some ⟨lb, 1, none⟩) S 16 st 1 w1 (HP.out w1 hb1) (by omega); rw [hix] at ci; clear hb1 ca)
      | (go_at_call 33; (with_reducible refine ci.mono ?_); rintro e w2 ⟨rfl, rfl⟩; clear ci))
    go_ret2
    exact ⟨rfl, HB1.out⟩
  · have HLB : Hid (∀ W, Below w.heap.size w W → W.cell? ⟨lb, 17, none⟩ = some (.int .i64 pg)) := Lib.hid fun W hb => (hl.kept (hb.block lb hl.lt)).c17
    have e0 : decide (o < 0) = false := decide_eq_false (by omega)
    clear hl hd hlen
    go_enter Try.func10, Try.ntmps10
    go_wp2_with (first
      | (go_at_call 34; (with_reducible refine ca.mono ?_); rintro e w1 ⟨rfl, hb1⟩; have HB1 := Lib.hid hb1; have ci := index_any (some ⟨lb, 1, none⟩) S 16 st 1 w1 (HP.out w1 hb1) (by omega); rw [hix] at ci; have c17 := HLB.out w1 hb1; clear hb1 ca)
      | (go_at_call 33; (with_reducible refine ci.mono ?_); rintro e w2 ⟨rfl, rfl⟩; clear ci))
    go_quiet (fail)
    go_wp2
    go_ret2
    exact ⟨rfl, below_drewN HB1.out _⟩
theorem lopen_any (h : Plg w v S P B lb db mb g) : Calls Try.prog 10 #[.pointer (some ⟨lb, 0, none⟩)] w fun e w' => e = .returned (.tuple #[.int .i64 g.op, .int .i64 g.page]) ∧ Below w.heap.size w w' := by
  obtain ⟨pg, hl, hpg⟩ := h.blk
  refine open_at hl h.dev h.inv.len h.inv.ix1 ?_
  rcases (by omega : g.op < 0 ∨ 0 ≤ g.op) with h0 | h0
  · obtain ⟨e1, e2, -⟩ := h.inv.noneO h0
    exact .inl ⟨e1, e2⟩
  · exact .inr ⟨h0, hpg h0⟩
/-- a segment's state -/
def stI (S : Nat) (g : Lg) (s : Int) : Int := if 0 ≤ s ∧ s < (S : Int) then g.st.getD s.toNat 2 else 2
theorem state_any (h : Plg w v S P B lb db mb g) (s : Int) : Calls Try.prog 13 #[.pointer (some ⟨lb, 0, none⟩), .int .i64 s] w fun e w' => e = .returned (.int .i64 (stI S g s)) ∧ Below w.heap.size w w' := by
  obtain ⟨pg, hl, hpg⟩ := h.blk
  have ca := all_any hl h.dev
  have hS2 := h.inv.shp.s2
  have hlen := h.inv.len
  have HLB := Lib.hid hl
  unfold stI
  by_cases hin : 0 ≤ s ∧ s < (S : Int)
  · rw [if_pos hin]
    obtain ⟨j, rfl⟩ : ∃ j : Nat, s = j := ⟨s.toNat, by omega⟩
    have hj : j < g.st.length := by omega
    rw [Int.toNat_natCast, List.getD_eq_getElem?_getD, List.getElem?_eq_getElem hj, Option.getD_some]
    have HG := Lib.hid (List.getElem?_eq_getElem hj)
    generalize g.st[j] = x at HG ⊢
    have e0 : decide ((j : Int) < 0) = false := decide_eq_false (by omega)
    have e1 : decide ((S : Int) ≤ (j : Int)) = false := decide_eq_false (by omega)
    clear h hl hpg hlen
    go_enter Try.func13, Try.ntmps13
    go_wp2_with (go_at_call 34; (with_reducible refine ca.mono ?_); rintro e w1 ⟨rfl, hb1⟩; have HB1 := Lib.hid hb1; have cx := (HLB.out.kept (hb1.block lb HLB.out.lt)).cst HG.out; clear hb1 ca)
    go_ret
    exact ⟨rfl, HB1.out⟩
  · rw [if_neg hin]
    rcases (by omega : s < 0 ∨ (0 ≤ s ∧ (S : Int) ≤ s)) with h0 | ⟨h0, h1⟩
    · have e0 : decide (s < 0) = true := decide_eq_true h0
      clear h hl hpg hlen
      go_enter Try.func13, Try.ntmps13
      go_wp2_with (go_at_call 34; (with_reducible refine ca.mono ?_); rintro e w1 ⟨rfl, hb1⟩; have HB1 := Lib.hid hb1; clear hb1 ca)
      go_ret
      exact ⟨rfl, HB1.out⟩
    · have e0 : decide (s < 0) = false := decide_eq_false (by omega)
      have e1 : decide ((S : Int) ≤ s) = true := decide_eq_true h1
      clear h hl hpg hlen
      go_enter Try.func13, Try.ntmps13
      go_wp2_with (go_at_call 34; (with_reducible refine ca.mono ?_); rintro e w1 ⟨rfl, hb1⟩; have HB1 := Lib.hid hb1; clear hb1 ca)
      go_ret
      exact ⟨rfl, HB1.out⟩
theorem count_any (h : Plg w v S P B lb db mb g) (x : Int) : Calls Try.prog 14 #[.pointer (some ⟨lb, 0, none⟩), .int .i64 x] w fun e w' => e = .returned (.int .i64 (cnt x g.st : Int)) ∧ Below w.heap.size w w' := by
  obtain ⟨pg, hl, hpg⟩ := h.blk
  have ca := all_any hl h.dev
  have hS2 := h.inv.shp.s2
  have HL := Lib.hid h.inv.len
  have HLB := Lib.hid hl
  clear h hl hpg
  go_enter Try.func14, Try.ntmps14
  go_wp2_with (go_at_call 34; (with_reducible refine ca.mono ?_); rintro e w1 ⟨rfl, hb1⟩; have HB1 := Lib.hid hb1; have HL1 := Lib.hid (HLB.out.kept (hb1.block lb HLB.out.lt)); clear hb1 ca)
  go_loopw [5, 7, 11] (fun n _ i wr => ∃ j m : Nat, j ≤ S ∧ m ≤ j ∧ i = .int .i64 j ∧ n = .int .i64 m ∧ Hid (m = cnt x (g.st.take j)) ∧ w1 = wr) (fun _ _ i _ => S - (intOf i).toNat)
  case atStart => exact ⟨0, 0, Nat.zero_le _, Nat.le_refl _, rfl, rfl, Lib.hid rfl, rfl⟩
  case round =>
    obtain ⟨j, m, hj, hmj, rfl, rfl, HM, rfl⟩ := hrel
    by_cases hlt : j < S
    · have hjl : j < g.st.length := by rw [HL.out]; exact hlt
      have HG := Lib.hid (List.getElem?_eq_getElem hjl)
      have HT := Lib.hid (cnt_take (x := x) hjl)
      generalize g.st[j] = y at HG HT
      have cx := HL1.out.cst HG.out
      clear hjl
      cases hb : (y == x)
      · have HM2 : Hid (m = cnt x (g.st.take (j + 1))) := Lib.hid (by rw [HT.out, hb, ← HM.out]; rfl)
        go_wp2
        go_roundw
        case rel => exact ⟨j + 1, m, by omega, by omega, by go_num, rfl, HM2, by first | rfl | trivial⟩
        case measure => simp [intOf]; omega
      · have HM2 : Hid (m + 1 = cnt x (g.st.take (j + 1))) := Lib.hid (by rw [HT.out, hb, ← HM.out]; rfl)
        go_wp2
        go_roundw
        case rel => exact ⟨j + 1, m + 1, by omega, by omega, by go_num, by go_num, HM2, by first | rfl | trivial⟩
        case measure => simp [intOf]; omega
    · obtain rfl : j = S := by omega
      have HM2 : Hid (m = cnt x g.st) := Lib.hid (by have := HM.out; rwa [List.take_of_length_le (by rw [HL.out]; exact Nat.le_refl _)] at this)
      go_wp2
      go_ret
      exact ⟨by rw [← HM2.out]; rfl, HB1.out⟩
theorem lnext_any (h : Plg w v S P B lb db mb g) : Calls Try.prog 16 #[.pointer (some ⟨lb, 0, none⟩)] w fun e w' => e = .returned (.int .u64 g.next) ∧ w = w' := by
  obtain ⟨pg, hl, hpg⟩ := h.blk
  have c := hl.c18
  clear h hl hpg
  go_enter Try.func16, Try.ntmps16
  go_wp2
  go_ret
  exact ⟨rfl, rfl⟩
theorem device_any (h : Plg w v S P B lb db mb g) : Calls Try.prog 12 #[.pointer (some ⟨lb, 0, none⟩)] w fun e w' => e = .returned (.pointer (some ⟨db, 0, none⟩)) ∧ w = w' := by
  obtain ⟨pg, hl, hpg⟩ := h.blk
  have c := hl.c0
  clear h hl hpg
  go_enter Try.func12, Try.ntmps12
  go_wp2
  go_ret
  exact ⟨rfl, rfl⟩
theorem lfits_any (h : Plg w v S P B lb db mb g) (p : Int) (h0 : 0 ≤ p) (A : Option Addr) (n c : Nat) (hn : n ≤ 4096) : Calls Try.prog 58 #[.pointer (some ⟨lb, 0, none⟩), .int .i64 p, .slice A n c] w fun e w' => e = .returned (.bool (decide (p + (Fm.pages n B : Int) ≤ (P : Int)))) ∧ Below w.heap.size w w' := by
  obtain ⟨pg, hl, hpg⟩ := h.blk
  have c0 := hl.c0
  have cs := shape_any h.dev
  have CF := Lib.hid (segFits_any h.inv.shp p n h0 hn)
  clear h hl hpg
  go_enter Try.func58, Try.ntmps58
  go_wp2_with (first
    | (go_at_call 21; (with_reducible refine cs.mono ?_); rintro e w1 ⟨rfl, hb1⟩; have HB1 := Lib.hid hb1; have cf := CF.out w1; clear hb1 cs)
    | (go_at_call 68; (with_reducible refine cf.mono ?_); rintro e w2 ⟨rfl, hb2⟩; have HB2 := Lib.hid (HB1.out.trans (hb2.mono HB1.out.size)); clear hb2 cf))
  go_ret
  exact ⟨rfl, HB2.out⟩
/-- why a record may not be in the log -/
def refI (P B : Nat) (kind : UInt8) (n : Nat) : Int := if kind = 1 then 1 else if P < Fm.pages n B + 1 then 10 else 0
theorem u8_one_eq (kind : UInt8) : (((kind.toNat : Nat) : Int) == 1) = decide (kind = 1) := by
  rw [Bool.eq_iff_iff]
  simp only [beq_iff_eq, decide_eq_true_eq]
  constructor
  · intro h
    have h2 : kind.toNat = 1 := by omega
    exact UInt8.toNat_inj.1 h2
  · rintro rfl; rfl
theorem refusal_any (h : Plg w v S P B lb db mb g) (kind : UInt8) (A : Option Addr) (n c : Nat) (hn : n ≤ 4096) : Calls Try.prog 57 #[.pointer (some ⟨lb, 0, none⟩), .int .u8 (kind.toNat : Int), .slice A n c] w fun e w' => e = .returned (.int .i64 (refI P B kind n)) ∧ Below w.heap.size w w' := by
  have cd := device_any h
  have cf := lfits_any h 1 (by omega) A n c hn
  have e1 := u8_one_eq kind
  unfold refI
  clear h
  by_cases hk : kind = 1
  · rw [decide_eq_true hk] at e1
    rw [if_pos hk]
    clear hk
    go_enter Try.func57, Try.ntmps57
    go_wp2_with (go_at_call 12; (with_reducible refine cd.mono ?_); rintro e w1 ⟨rfl, rfl⟩; clear cd)
    go_ret
    exact ⟨rfl, Below.refl _ _⟩
  · rw [decide_eq_false hk] at e1
    rw [if_neg hk]
    clear hk
    by_cases hr : P < Fm.pages n B + 1
    · rw [decide_eq_false (by omega)] at cf
      rw [if_pos hr]
      clear hr
      go_enter Try.func57, Try.ntmps57
      go_wp2_with (first
        | (go_at_call 12; (with_reducible refine cd.mono ?_); rintro e w1 ⟨rfl, rfl⟩; clear cd)
        | (go_at_call 58; (with_reducible refine cf.mono ?_); rintro e w2 ⟨rfl, hb2⟩; have HB2 := Lib.hid hb2; clear hb2 cf))
      go_ret
      exact ⟨rfl, HB2.out⟩
    · rw [decide_eq_true (by omega)] at cf
      rw [if_neg hr]
      clear hr
      go_enter Try.func57, Try.ntmps57
      go_wp2_with (first
        | (go_at_call 12; (with_reducible refine cd.mono ?_); rintro e w1 ⟨rfl, rfl⟩; clear cd)
        | (go_at_call 58; (with_reducible refine cf.mono ?_); rintro e w2 ⟨rfl, hb2⟩; have HB2 := Lib.hid hb2; clear hb2 cf))
      go_ret
      exact ⟨rfl, HB2.out⟩
end
end Go.Proofs.YtndbjdnfibpicaaR
