/-
  The document's begin and Piece of layer 17.
-/
import Derived.Test.YtidjajdgphkbbaaRRCodecRef
import Derived.Test.YtidjajdgphkbbaaRRStepBytes
import Derived.Deep.RegionHeld3
namespace Go.Proofs.YtidjajdgphkbbaaRR
open Go.ChangeShapes Go.WideShapes Go.ChangeAt Go.RowKit
set_option maxRecDepth 100000

/-- a row of the call's own -/
def OwnTold (w : World) (L : List UInt8) (e : Ending) (w' : World) : Prop :=
  ∃ v, e = .returned v ∧ w'.ownsRow w.heap.size 5 1 v L.length (vals L) ∧ Below w.heap.size w w'
/-- one byte, just made: a row of the call's own -/
theorem one_own (w : World) (x : UInt8) (T : TypeId) : (w.alloc (.cells #[.int .u8 (x.toNat : Int)] T)).ownsRow w.heap.size T 1 (.slice (some ⟨w.heap.size, 0, none⟩) 1 1) 1 (vals [x]) := by
  refine ⟨by simp [vals], .inr ⟨w.heap.size, 1, #[.int .u8 (x.toNat : Int)], rfl, Nat.le_refl _, heap_alloc_new w _, Nat.le_refl _, by unfold maxLen; omega, rfl, rfl⟩⟩
set_option maxHeartbeats 1000000 in
theorem begin17_any (o g : Int) (h : Cp.own o g = true) (w : World) : Calls Try.prog 20 #[.int .i64 o, .int .i64 g] w (OwnTold w (Cp.begin o g)) := by
  obtain ⟨h1, h2, h3, h4⟩ : 0 ≤ o ∧ o ≤ 15 ∧ 1 ≤ g ∧ g ≤ 2147483647 := by
    unfold Cp.own at h
    exact of_decide_eq_true h
  obtain ⟨c, rfl⟩ : ∃ a : Nat, g = (a : Int) := ⟨g.toNat, by omega⟩
  obtain ⟨i0, hi, hz, hsz, hby⟩ := info_parts u8_info
  have HI := Lib.hid hi
  have HZ := Lib.hid hz
  have HSZ := Lib.hid hsz
  have HBY := Lib.hid hby
  obtain ⟨x, hx⟩ : ∃ x : UInt8, x = UInt8.ofNat o.toNat := ⟨_, rfl⟩
  have hxo : (x.toNat : Int) = o := by rw [hx, UInt8.toNat_ofNat']; omega
  have hw1 : IntKind.u8.wrap o = (x.toNat : Int) := by rw [hxo]; exact IntWalk.u8_in _ (by omega)
  have hw1' : o % 256 = (x.toNat : Int) := by omega
  have hw2 : IntKind.u64.wrap (c : Int) = (c : Int) := IntWalk.u64_in _ (by omega)
  have hb0 : Below w.heap.size w (w.alloc (.cells #[.int .u8 (x.toNat : Int)] 5)) := (Below.refl _ w).alloc (Nat.le_refl _) _
  have HB0 := Lib.hid hb0
  have HO0 := Lib.hid (one_own w x 5)
  have cl : Calls Try.prog 21 #[.int .u64 c, .int .i64 4] (w.alloc (.cells #[.int .u8 (x.toNat : Int)] 5)) _ := lay_any c 4 _ (by omega) (by omega)
  have HE : Hid ([x] ++ Fm.be c 4 = Cp.begin o (c : Int)) := Lib.hid (by rw [hx]; simp [Cp.begin])
  clear hi hz hsz hby h h1 h2 h3 h4 hb0 hx hxo
  go_enter Try.func20, Try.ntmps20
  go_wp2_with (first
    | (go_at_call 21; (with_reducible refine cl.mono ?_); rintro e w1 ⟨A1, k1, rfl, hs1, hk1, hb1⟩; rw [Fm.be_length] at hs1; have HS1 := Lib.hid hs1; have HB1 := Lib.hid (HB0.out.trans (hb1.mono HB0.out.size)); have HO1 := Lib.hid (HO0.out.kept (row := none) ⟨hb1.os, hb1.tape, hb1.output, hb1.size, fun k hk _ => hb1.block k hk⟩ (by simp [Value.ownBlock])); clear hs1 hk1 hb1 cl)
    | (at_builtin; refine wpList_append_bytes (o := ⟨some 11, _, _, _, _, _⟩) rfl (.tmp 7) (.tmp 10) 22 rfl w.heap.size 5 i0 Try.underlying22 HI.out HZ.out HSZ.out HBY.out _ 1 [x] rfl HO1.out w1.heap.size A1 4 k1 (Fm.be c 4) rfl HS1.out (by omega) HB1.out.size ?_; intro v2 w2 HO2 HG2; have HB2 := Lib.hid (HB1.out.grown HG2.out HB1.out.size (fun q hq => (HO1.out.lt q hq).1))))
  go_ret
  have ho := HO2.out
  rw [HE.out] at ho
  exact ⟨v2, rfl, by rw [Cp.begin_length]; exact ho, HB2.out⟩
set_option maxHeartbeats 4000000 in
theorem piece17_any (o g i : Int) (A : Option Addr) (n c : Nat) (l : List UInt8) (B : Nat) (w : World) (h : (Cp.mk o g i l).right = true) (hs : Bs w B A n l) (hB : B ≤ w.heap.size) :
    Calls Try.prog 11 #[pieceV o g i A n c] w (Told w (Cp.bytes ⟨o, g, i, l⟩)) := by
  obtain ⟨⟨h1, h2, h3, h4⟩, h5, h6, h7, h8⟩ := Cp.right_own h
  simp only at h1 h2 h3 h4 h5 h6 h7 h8
  have how : Cp.own o g = true := by unfold Cp.own; exact decide_eq_true ⟨h1, h2, h3, h4⟩
  obtain ⟨j, rfl⟩ : ∃ a : Nat, i = (a : Int) := ⟨i.toNat, by omega⟩
  obtain ⟨i0, hi, hz, hsz, hby⟩ := info_parts u8_info
  have HI := Lib.hid hi
  have HZ := Lib.hid hz
  have HSZ := Lib.hid hsz
  have HBY := Lib.hid hby
  have HS := Lib.hid hs
  have HBW := Lib.hid hB
  have HJ : Hid (j ≤ 4096 ∧ n ≤ 64) := Lib.hid (by have := hs.1; omega)
  have HOW := Lib.hid how
  have hwj : IntKind.u64.wrap (j : Int) = (j : Int) := IntWalk.u64_in _ (by omega)
  have hb := below_new4 w (.cells #[.int .i64 o, .int .i64 g, .int .i64 (j : Int), .slice A n c] 24)
  have HB0 := Lib.hid hb.drew
  have F0 := Lib.hid (Four.new w (.int .i64 o) (.int .i64 g) (.int .i64 (j : Int)) (.slice A n c) 24)
  have HE : Hid (((Cp.begin o g ++ Fm.be j 2) ++ l) = Cp.bytes ⟨o, g, (j : Int), l⟩) := Lib.hid (by simp [Cp.bytes])
  clear h how hs hB h1 h2 h3 h4 h5 h6 h7 h8 hi hz hsz hby hb
  go_enter Try.func11, Try.ntmps11
  go_wp2
  obtain ⟨-, c0, c1, c2, c3, -⟩ := F0.out
  have cb := begin17_any o g HOW.out (w.alloc (.cells #[.int .i64 o, .int .i64 g, .int .i64 (j : Int), .slice A n c] 24)).drew
  have hP : (w.alloc (.cells #[.int .i64 o, .int .i64 g, .int .i64 (j : Int), .slice A n c] 24)).drew.cell? ⟨w.heap.size, 0, none⟩ = some (.int .i64 o) ∧ (w.alloc (.cells #[.int .i64 o, .int .i64 g, .int .i64 (j : Int), .slice A n c] 24)).drew.cell? ⟨w.heap.size, 1, none⟩ = some (.int .i64 g) ∧ (w.alloc (.cells #[.int .i64 o, .int .i64 g, .int .i64 (j : Int), .slice A n c] 24)).drew.cell? ⟨w.heap.size, 2, none⟩ = some (.int .i64 (j : Int)) := ⟨by simp, by simp, by simp⟩
  go_region_held3 (fun W => W.cell? ⟨w.heap.size, 0, none⟩ = some (.int .i64 o) ∧ W.cell? ⟨w.heap.size, 1, none⟩ = some (.int .i64 g) ∧ W.cell? ⟨w.heap.size, 2, none⟩ = some (.int .i64 (j : Int))) (exact hP)
    ((first
      | (go_at_call 20; (with_reducible refine cb.mono ?_); rintro e w3 ⟨v3, rfl, ho3, hb3⟩; rw [Cp.begin_length] at ho3; have HB3 := Lib.hid (HB0.out.trans (hb3.mono HB0.out.size)); have F3 := Lib.hid ((show Four (w.alloc (.cells #[.int .i64 o, .int .i64 g, .int .i64 (j : Int), .slice A n c] 24)).drew w.heap.size (.int .i64 o) (.int .i64 g) (.int .i64 (j : Int)) (.slice A n c) from F0.out).below hb3); obtain ⟨-, c0, c1, c2, c3, -⟩ := F3.out; replace hP := And.intro c0 (And.intro c1 c2); have HO3 := Lib.hid ho3; have HC3 := Lib.hid hb3; have cl := lay_any j 2 w3 (by have := HJ.out; omega) (by omega); clear ho3 hb3 cb)
      | (go_at_call 21; (refine cl.mono ?_); rintro e w4 ⟨A4, k4, rfl, hs4, hk4, hb4⟩; rw [Fm.be_length] at hs4; have HB4 := Lib.hid (HB3.out.trans (hb4.mono HB3.out.size)); have F4 := Lib.hid (F3.out.below hb4); obtain ⟨-, c0, c1, c2, c3, -⟩ := F4.out; replace hP := And.intro c0 (And.intro c1 c2); have HS4 := Lib.hid hs4; have HC4 := Lib.hid (HC3.out.trans (hb4.mono HC3.out.size)); have HO4 := Lib.hid (HO3.out.kept (row := none) ⟨hb4.os, hb4.tape, hb4.output, hb4.size, fun k hk _ => hb4.block k hk⟩ (Classical.em _)); clear hs4 hk4 hb4 cl)
      | (refine step_append_bytes (by rfl) _ _ _ (by rfl) (w.alloc (.cells #[.int .i64 o, .int .i64 g, .int .i64 (j : Int), .slice A n c] 24)).drew.heap.size 5 i0 Try.underlying22 HI.out HZ.out HSZ.out HBY.out v3 5 (Cp.begin o g) (by rfl) HO4.out w4.heap.size A4 2 k4 (Fm.be j 2) (by rfl) HS4.out (by omega) HC4.out.size ?_; intro A5 k5 w5 ho5 hg5; have HC5 := Lib.hid (HC4.out.grown hg5 HC4.out.size (fun q hq => (HO4.out.lt q hq).1)); have HB5 := Lib.hid (HB0.out.trans (HC5.out.mono HB0.out.size)); have F5 := Lib.hid ((show Four (w.alloc (.cells #[.int .i64 o, .int .i64 g, .int .i64 (j : Int), .slice A n c] 24)).drew w.heap.size (.int .i64 o) (.int .i64 g) (.int .i64 (j : Int)) (.slice A n c) from F0.out).below HC5.out); obtain ⟨-, c0, c1, c2, c3, -⟩ := F5.out; replace hP := And.intro c0 (And.intro c1 c2); have HO5 := Lib.hid ho5; clear ho5 hg5)))
  go_wp2_with (at_builtin; refine wpList_append_bytes (o := ⟨some 17, _, _, _, _, _⟩) rfl (.tmp 14) (.tmp 16) 22 rfl (w.alloc (.cells #[.int .i64 o, .int .i64 g, .int .i64 (j : Int), .slice A n c] 24)).drew.heap.size 5 i0 Try.underlying22 HI.out HZ.out HSZ.out HBY.out _ 7 (Cp.begin o g ++ Fm.be j 2) rfl HO5.out B A n c l rfl (HS.out.below (HB5.out.mono HBW.out)) (by have := HJ.out; omega) HC5.out.size ?_; intro v6 w6 HO6 HG6; have HC6 := Lib.hid (HC5.out.grown HG6.out HC5.out.size (fun q hq => (HO5.out.lt q hq).1)))
  go_ret
  have ho := HO6.out
  rw [HE.out] at ho
  have hlen : (Cp.bytes ⟨o, g, (j : Int), l⟩).length = 7 + n := by rw [Cp.bytes_length]; dsimp only; rw [HS.out.1]; omega
  obtain ⟨A7, k7, rfl, hb7, hk7⟩ := own_bs ho
  exact ⟨A7, k7, by rw [hlen]; rfl, by rw [hlen]; exact hb7, by rw [hlen]; exact hk7, HB0.out.trans (HC6.out.mono HB0.out.size)⟩
end Go.Proofs.YtidjajdgphkbbaaRR
