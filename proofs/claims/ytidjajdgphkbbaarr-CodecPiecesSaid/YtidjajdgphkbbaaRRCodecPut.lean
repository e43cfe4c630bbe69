/-
  codec.pieceFits and codec.PutPiece for all pieces.
-/
import Derived.Test.YtidjajdgphkbbaaRRCodecHead
import Derived.Test.YtidjajdgphkbbaaRRFour
import Derived.Test.YtidjajdgphkbbaaRRBytesAppend
import Derived.Deep.RegionHeld3
namespace Go.Proofs.YtidjajdgphkbbaaRR
open Go.ChangeShapes Go.WideShapes Go.ChangeAt Go.RowKit
set_option maxRecDepth 100000

/-- whether a piece of n bytes may be -/
def pieceB (o g i : Int) (n : Nat) : Bool := Cp.own o g && decide (0 ≤ i ∧ i ≤ 4096 ∧ 1 ≤ n ∧ n ≤ 64)
theorem pieceB_parts (o g i : Int) (n : Nat) : pieceB o g i n = (Cp.own o g && decide (0 ≤ i ∧ i ≤ 4096) && decide ((1 : Int) ≤ (n : Int) ∧ (n : Int) ≤ 64)) := by
  unfold pieceB
  rw [Bool.and_assoc]
  congr 1
  rw [Bool.eq_iff_iff]
  simp only [Bool.and_eq_true, decide_eq_true_eq]
  omega
theorem pieceFits_any (o g i : Int) (A : Option Addr) (n c : Nat) (w : World) : Calls Try.prog 13 #[pieceV o g i A n c] w fun e w' => e = .returned (.bool (pieceB o g i n)) ∧ Below w.heap.size w w' := by
  have hb := below_new4 w (.cells #[.int .i64 o, .int .i64 g, .int .i64 i, .slice A n c] 24)
  have HB := Lib.hid hb
  have ch := headFits_any o g (w.alloc (.cells #[.int .i64 o, .int .i64 g, .int .i64 i, .slice A n c] 24))
  have f1 := nfits_any i 0 4096 (w.alloc (.cells #[.int .i64 o, .int .i64 g, .int .i64 i, .slice A n c] 24))
  have f2 := nfits_any (n : Int) 1 64 (w.alloc (.cells #[.int .i64 o, .int .i64 g, .int .i64 i, .slice A n c] 24))
  rw [pieceB_parts]
  generalize Cp.own o g = q0 at *
  generalize decide (0 ≤ i ∧ i ≤ 4096) = q1 at *
  generalize decide ((1 : Int) ≤ (n : Int) ∧ (n : Int) ≤ 64) = q2 at *
  clear hb
  cases q0
  case' true => cases q1
  all_goals
    simp only [Bool.false_and, Bool.true_and, Bool.and_false]
    go_enter Try.func13, Try.ntmps13
    go_wp2_with (first
      | (go_at_call 22; (with_reducible refine ch.mono ?_); rintro e w2 ⟨rfl, rfl⟩)
      | (go_at_call 23; (with_reducible refine f1.mono ?_); rintro e w2 ⟨rfl, rfl⟩)
      | (go_at_call 23; (with_reducible refine f2.mono ?_); rintro e w2 ⟨rfl, rfl⟩))
    go_ret
    exact ⟨rfl, HB.out⟩
/-- PutPiece of one that may not be -/
theorem putPiece_no (o g i : Int) (A : Option Addr) (n c : Nat) (w : World) (h : pieceB o g i n = false) : Calls Try.prog 5 #[pieceV o g i A n c] w fun e w' =>
    e = .returned (.tuple #[.slice none 0 0, .int .i64 1]) ∧ Below w.heap.size w w' := by
  have hb := below_new4 w (.cells #[.int .i64 o, .int .i64 g, .int .i64 i, .slice A n c] 24)
  have HB := Lib.hid hb
  have cf := pieceFits_any o g i A n c (w.alloc (.cells #[.int .i64 o, .int .i64 g, .int .i64 i, .slice A n c] 24))
  rw [h] at cf
  clear h hb
  go_enter Try.func5, Try.ntmps5
  go_wp2_with (go_at_call 13; (with_reducible refine cf.mono ?_); rintro e w2 ⟨rfl, hb2⟩; replace HB := Lib.hid (HB.out.trans (hb2.mono HB.out.size)); clear cf hb2)
  go_ret2
  exact ⟨rfl, HB.out⟩
theorem pieceB_own {o g i : Int} {n : Nat} (h : pieceB o g i n = true) : Cp.own o g = true ∧ 0 ≤ i ∧ i ≤ 4096 ∧ 1 ≤ n ∧ n ≤ 64 := by
  unfold pieceB at h
  simpa only [Bool.and_eq_true, decide_eq_true_eq] using h
set_option maxHeartbeats 2000000 in
/-- PutPiece of one that may be: its bytes -/
theorem putPiece_yes (o g i : Int) (A : Option Addr) (n c : Nat) (l : List UInt8) (B : Nat) (w : World) (h : pieceB o g i n = true) (hs : Bs w B A n l) (hB : B ≤ w.heap.size) :
    Calls Try.prog 5 #[pieceV o g i A n c] w fun e w' =>
      ∃ A' c', e = .returned (.tuple #[.slice A' (n + 7) c', .int .i64 0]) ∧ Bs w' w'.heap.size A' (n + 7) (Cp.bytes ⟨o, g, i, l⟩) ∧ n + 7 ≤ c' ∧ Below w.heap.size w w' := by
  obtain ⟨ho, h1, h2, h3, h4⟩ := pieceB_own h
  obtain ⟨j, rfl⟩ : ∃ a : Nat, i = (a : Int) := ⟨i.toNat, by omega⟩
  obtain ⟨i0, hi, hz, hsz, hby⟩ := info_parts u8_info
  have HI := Lib.hid hi
  have HZ := Lib.hid hz
  have HSZ := Lib.hid hsz
  have HBY := Lib.hid hby
  have HS := Lib.hid hs
  have HBW := Lib.hid hB
  have HJ : Hid (j ≤ 4096 ∧ n ≤ 64) := Lib.hid (by omega)
  have HO := Lib.hid ho
  have hwj : IntKind.u64.wrap (j : Int) = (j : Int) := IntWalk.u64_in _ (by omega)
  have hb := below_new4 w (.cells #[.int .i64 o, .int .i64 g, .int .i64 (j : Int), .slice A n c] 24)
  have HB0 := Lib.hid hb
  have cf := pieceFits_any o g j A n c (w.alloc (.cells #[.int .i64 o, .int .i64 g, .int .i64 (j : Int), .slice A n c] 24))
  rw [h] at cf
  have F0 := Lib.hid (Four.new w (.int .i64 o) (.int .i64 g) (.int .i64 (j : Int)) (.slice A n c) 24)
  clear h hs hB h1 h2 h3 h4 ho hi hz hsz hby hb
  go_enter Try.func5, Try.ntmps5
  go_wp2_with (go_at_call 13; (with_reducible refine cf.mono ?_); rintro e w2 ⟨rfl, hb2⟩; have HB2 := Lib.hid (HB0.out.trans (hb2.mono HB0.out.size)); have F2 := Lib.hid (F0.out.below hb2); clear cf hb2)
  obtain ⟨-, c0, c1, c2, c3, -⟩ := F2.out
  have ch := head_any o g HO.out w2.drew
  have hP : w2.drew.cell? ⟨w.heap.size, 0, none⟩ = some (.int .i64 o) ∧ w2.drew.cell? ⟨w.heap.size, 1, none⟩ = some (.int .i64 g) ∧ w2.drew.cell? ⟨w.heap.size, 2, none⟩ = some (.int .i64 (j : Int)) := ⟨by simpa using c0, by simpa using c1, by simpa using c2⟩
  go_region_held3 (fun W => W.cell? ⟨w.heap.size, 0, none⟩ = some (.int .i64 o) ∧ W.cell? ⟨w.heap.size, 1, none⟩ = some (.int .i64 g) ∧ W.cell? ⟨w.heap.size, 2, none⟩ = some (.int .i64 (j : Int))) (exact hP)
    ((first
      | (go_at_call 15; (with_reducible refine ch.mono ?_); rintro e w3 ⟨b3, rfl, hr3, hg3, hb3⟩; have HB3 := Lib.hid (HB2.out.drew.trans (hb3.mono HB2.out.size)); have F3 := Lib.hid ((show Four w2.drew _ _ _ _ _ from F2.out).below hb3); obtain ⟨-, c0, c1, c2, c3, -⟩ := F3.out; replace hP := And.intro c0 (And.intro c1 c2); have cp := numsPut_at (some ⟨b3, 0, none⟩) 5 5 j 2 7 2 (Cp.begin o g) _ w3 (hr3.bs hr3.lt) (Nat.le_refl _) (by omega) (by omega) (by have := HJ.out; omega) rfl rfl; have HG3 : Hid (w.heap.size ≤ b3) := Lib.hid (Nat.le_trans HB2.out.size hg3); clear hr3 hg3 hb3 ch)
      | (go_at_call 14; (with_reducible refine cp.mono ?_); rintro e w4 ⟨g4, rfl, hg4, hr4, hb4⟩; have HG4 := Lib.hid hg4; have HB4 := Lib.hid (HB3.out.trans (hb4.mono HB3.out.size)); have F4 := Lib.hid (F3.out.below hb4); obtain ⟨-, c0, c1, c2, c3, -⟩ := F4.out; replace hP := And.intro c0 (And.intro c1 c2); have HO4 := Lib.hid (row_own hr4 (n := 7) (by simp [Fm.be_length, Cp.begin_length]) (by omega)); have HR4 := Lib.hid hr4; clear hr4 hb4 hg4 cp)))
  go_wp2_with (at_builtin; refine wpList_append_bytes (o := ⟨some 20, _, _, _, _, _⟩) rfl (.tmp 17) (.tmp 19) 22 rfl g4 5 i0 Try.underlying22 HI.out HZ.out HSZ.out HBY.out (.slice (some ⟨g4, 0, none⟩) 7 7) 7 _ rfl HO4.out B A n c l rfl (HS.out.below (HB4.out.mono HBW.out)) (by have := HJ.out; omega) (Nat.le_of_lt HR4.out.lt) ?_; intro v5 w5 HO5 HG5; have HB5 : Hid (Below w.heap.size w w5) := Lib.hid (HB4.out.grown HG5.out HB4.out.size (fun q hq => by injection hq with hq; rw [← hq, HG4.out]; exact HB3.out.size)); obtain ⟨A5, c5, rfl, hs5, hc5⟩ := own_bs HO5.out; have HS5 := Lib.hid (And.intro hs5 hc5); clear hs5 hc5)
  have e7 : 7 + n = n + 7 := by omega
  rw [e7] at HS5 ⊢
  go_ret2
  exact ⟨A5, c5, rfl, HS5.out.1, HS5.out.2, HB5.out⟩
end Go.Proofs.YtidjajdgphkbbaaRR
