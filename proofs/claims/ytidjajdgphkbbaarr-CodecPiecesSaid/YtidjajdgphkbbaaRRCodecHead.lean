/-
  What the records of layer 17 begin with: whether it may be, its bytes; PutDrop at the example.
-/
import Derived.Test.YtidjajdgphkbbaaRRPutAt
import Derived.Test.YtidjajdgphkbbaaRRCodecRef
import Derived.Test.YtidjajdgphkbbaaRRNumsFits
import Derived.Test.YtidjajdgphkbbaaRRThree
namespace Go.Proofs.YtidjajdgphkbbaaRR
open Go.ChangeShapes Go.WideShapes Go.ChangeAt Go.RowKit
set_option maxRecDepth 100000

theorem own_parts (o g : Int) : Cp.own o g = (decide (0 ≤ o ∧ o ≤ 15) && decide (1 ≤ g ∧ g ≤ 2147483647)) := by
  unfold Cp.own
  rw [Bool.eq_iff_iff]
  simp only [Bool.and_eq_true, decide_eq_true_eq]
  omega
theorem headFits_any (o g : Int) (w : World) : Calls Try.prog 22 #[.int .i64 o, .int .i64 g] w fun e w' => e = .returned (.bool (Cp.own o g)) ∧ w = w' := by
  have f1 := nfits_any o 0 15 w
  have f2 := nfits_any g 1 2147483647 w
  rw [own_parts]
  generalize decide (0 ≤ o ∧ o ≤ 15) = q1 at *
  generalize decide (1 ≤ g ∧ g ≤ 2147483647) = q2 at *
  cases q1
  · rw [Bool.false_and]
    go_enter Try.func22, Try.ntmps22
    go_wp2_with (go_at_call 23; (with_reducible refine f1.mono ?_); rintro e w' ⟨rfl, rfl⟩)
    go_ret
    exact ⟨rfl, rfl⟩
  · rw [Bool.true_and]
    go_enter Try.func22, Try.ntmps22
    go_wp2_with (go_at_call 23; first | ((with_reducible refine f1.mono ?_); rintro e w' ⟨rfl, rfl⟩) | ((with_reducible refine f2.mono ?_); rintro e w' ⟨rfl, rfl⟩))
    go_ret
    exact ⟨rfl, rfl⟩
theorem begin_be (o g : Nat) : ([] ++ Fm.be o 1) ++ Fm.be g 4 = Cp.begin (o : Int) (g : Int) := by
  simp [Cp.begin, Fm.be]
/-- an object and a generation, as bytes: a block of the call's own -/
theorem head_any (o g : Int) (h : Cp.own o g = true) (w : World) : Calls Try.prog 15 #[.int .i64 o, .int .i64 g] w fun e w' =>
    ∃ b, e = .returned (.slice (some ⟨b, 0, none⟩) 5 5) ∧ Row 5 w' b (Cp.begin o g) ∧ w.heap.size ≤ b ∧ Below w.heap.size w w' := by
  obtain ⟨h1, h2, h3, h4⟩ : 0 ≤ o ∧ o ≤ 15 ∧ 1 ≤ g ∧ g ≤ 2147483647 := by
    unfold Cp.own at h
    exact of_decide_eq_true h
  obtain ⟨a, rfl⟩ : ∃ a : Nat, o = (a : Int) := ⟨o.toNat, by omega⟩
  obtain ⟨c, rfl⟩ : ∃ a : Nat, g = (a : Int) := ⟨g.toNat, by omega⟩
  have hw1 : IntKind.u64.wrap (a : Int) = (a : Int) := IntWalk.u64_in _ (by omega)
  have hw2 : IntKind.u64.wrap (c : Int) = (c : Int) := IntWalk.u64_in _ (by omega)
  have HC : Hid (c < 18446744073709551616) := Lib.hid (by omega)
  have cp := numsPut_at none 0 0 a 1 1 1 [] w.heap.size w (Bs.nil _ _ _) (Nat.le_refl _) (by omega) (by omega) (by omega) rfl rfl
  clear h h1 h2 h3 h4
  go_enter Try.func15, Try.ntmps15
  go_wp2_with (first
    | (go_at_call 14; (with_reducible refine cp.mono ?_); rintro e w2 ⟨g2, rfl, hg2, hr2, hb2⟩; have HB2 := Lib.hid hb2; have HG2 := Lib.hid hg2; have cp2 := numsPut_at (some ⟨g2, 0, none⟩) 1 1 c 4 5 4 ([] ++ Fm.be a 1) _ w2 (hr2.bs hr2.lt) (Nat.le_refl _) (by omega) (by omega) HC.out rfl rfl; clear hr2 hb2 hg2 cp)
    | (go_at_call 14; (with_reducible refine cp2.mono ?_); rintro e w3 ⟨g3, rfl, hg3, hr3, hb3⟩; have HG3 := Lib.hid hg3; have HR3 := Lib.hid hr3; have HB3 := Lib.hid (HB2.out.trans (hb3.mono HB2.out.size)); clear hr3 hb3 hg3 cp2))
  go_ret
  have hr := HR3.out
  rw [begin_be] at hr
  exact ⟨g3, rfl, hr, by rw [HG3.out]; exact HB2.out.size, HB3.out⟩
/-- PutDrop of one that may be -/
theorem putDrop_any (o g : Int) (p : Bool) (h : Cp.own o g = true) (w : World) : Calls Try.prog 12 #[.agg #[.int .i64 o, .int .i64 g, .bool p]] w fun e w' =>
    ∃ b, e = .returned (.tuple #[.slice (some ⟨b, 0, none⟩) 5 5, .int .i64 0]) ∧ Row 5 w' b (Cp.begin o g) ∧ Below w.heap.size w w' := by
  have hb0 : Below w.heap.size w (w.alloc (.cells #[.int .i64 o, .int .i64 g, .bool p] 40)) := (Below.refl _ w).alloc (Nat.le_refl _) _
  have HB0 := Lib.hid hb0
  have cf := headFits_any o g (w.alloc (.cells #[.int .i64 o, .int .i64 g, .bool p] 40))
  rw [h] at cf
  have ch := head_any o g h (w.alloc (.cells #[.int .i64 o, .int .i64 g, .bool p] 40))
  clear h hb0
  go_enter Try.func12, Try.ntmps12
  go_wp2_with (first
    | (go_at_call 22; (with_reducible refine cf.mono ?_); rintro e w2 ⟨rfl, rfl⟩; clear cf)
    | (go_at_call 15; (with_reducible refine ch.mono ?_); rintro e w3 ⟨b, rfl, hr, hg, hb⟩; have HR := Lib.hid hr; have HB := Lib.hid (HB0.out.trans (hb.mono HB0.out.size)); clear hr hg hb ch))
  go_ret2
  exact ⟨b, rfl, HR.out, HB.out⟩
/-- the example -/
theorem awake17 (w : World) : Calls Try.prog 4 #[] w fun e w' => e = .returned (.bool true) ∧ Below w.heap.size w w' := by
  have cd := putDrop_any 1 2 false (by rfl) w
  go_enter Try.func4, Try.ntmps4
  go_wp2_with (go_at_call 12; (with_reducible refine cd.mono ?_); rintro e w1 ⟨b, rfl, hr, hb⟩; have h0 := hr.cell (j := 0) (by decide); have h4 := hr.cell (j := 4) (by decide); have HB := Lib.hid hb; clear hb hr cd; simp only [show (Cp.begin 1 2)[0]'(by decide) = 1 by rfl, show (Cp.begin 1 2)[4]'(by decide) = 2 by rfl, show ((1 : UInt8).toNat : Int) = 1 from rfl, show ((2 : UInt8).toNat : Int) = 2 from rfl] at h0 h4)
  go_ret
  exact ⟨rfl, HB.out⟩
end Go.Proofs.YtidjajdgphkbbaaRR
