/-
  The example, by what a program's index owes.
-/
import Derived.Test.YtcmhodimkpkmbaaDoorIxMade
import Derived.Deep.RegionHeld3
namespace Go.Proofs.YtcmhodimkpkmbaaDoor
open Go.ChangeShapes Go.WideShapes Go.ChangeAt Go.RowKit
set_option maxRecDepth 100000

section
variable {R : (Nat → Prop) → World → List Value → Ix.St → Prop} {sz : Nat} {z0 : List Value}
theorem IxBox.new (W : World) (cs : List Value) : IxBox (W.alloc (.cells cs.toArray 35)) W.heap.size cs := heap_alloc_new W _
/-- a variable, made and set -/
theorem var_set (K : IxPrg R sz) (hzl : z0.length = sz) {own : Nat → Prop} {W : World} {cs : List Value} {S : Ix.St} (h : R own W cs S) :
    (W.alloc (.cells z0.toArray 35)).there W.heap.size 0 cs.toArray.size ∧ (Tryd.prog.info? 35).map (·.size) = some cs.toArray.size ∧ IxBox ((W.alloc (.cells z0.toArray 35)).setCells W.heap.size 0 cs) W.heap.size cs ∧ R own ((W.alloc (.cells z0.toArray 35)).setCells W.heap.size 0 cs) cs S ∧ Below W.heap.size W ((W.alloc (.cells z0.toArray 35)).setCells W.heap.size 0 cs) := by
  have hs1 : cs.toArray.size = sz := by simpa using K.len h
  have hb : Below W.heap.size W ((W.alloc (.cells z0.toArray 35)).setCells W.heap.size 0 cs) := below_cells cs _ 0 _ (Nat.le_refl _) ((Below.refl _ W).alloc (Nat.le_refl _) _)
  exact ⟨by rw [hs1]; exact (IxBox.new W z0).there hzl, by rw [hs1]; exact K.size, (IxBox.new W z0).put ((K.len h).trans hzl.symm), K.frame h fun i hi => hb.block i (K.lt h hi), hb⟩
def ex1 : Ix.St := Ix.bnd Ix.st0 ⟨1, 2, ⟨#[]⟩, 0, 0⟩ (0, 0)
theorem ex1_b : (Ix.see ex1 1).b = true := by simp [ex1, Ix.see, Ix.bnd, Ix.may, Ix.upd, Ix.bnd1, Ix.st0, Ix.sl0]
theorem ex2_b : (Ix.see (Ix.fgt ex1 1 2 (0, 0)) 1).b = false := by simp [ex1, Ix.see, Ix.bnd, Ix.fgt, Ix.fgt1, Ix.may, Ix.upd, Ix.bnd1, Ix.st0, Ix.sl0]
theorem ex2_f : (Ix.see (Ix.fgt ex1 1 2 (0, 0)) 1).fl = 2 := by simp [ex1, Ix.see, Ix.bnd, Ix.fgt, Ix.fgt1, Ix.may, Ix.upd, Ix.bnd1, Ix.st0, Ix.sl0]
theorem IxBox.alloc {W : World} {b : Nat} {cs : List Value} (h : IxBox W b cs) (o : Obj) : IxBox (W.alloc o) b cs := h.below ((Below.refl _ W).alloc (Nat.le_refl _) o)
theorem IxPrg.on (K : IxPrg R sz) {own : Nat → Prop} {W W' : World} {cs : List Value} {S : Ix.St} (h : R own W cs S) (hb : Below W.heap.size W W') : R own W' cs S := K.frame h fun i hi => hb.block i (K.lt h hi)
set_option maxHeartbeats 2000000 in
theorem ixAwake_any (K : IxPrg R sz) (T : IxTells R) (hz : ∀ W, (zeroValue 35).run Tryd.prog W = .ok (.agg z0.toArray) W) (hzl : z0.length = sz) (w : World) :
    Calls Tryd.prog 5 #[] w fun e w' => e = .returned (.bool true) ∧ Below w.heap.size w w' := by
  have HOK1 : Hid (Ix.Ok ex1) := Lib.hid (Ix.ok_bnd Ix.ok_st0 _ _)
  have HOK2 : Hid (Ix.Ok (Ix.fgt ex1 1 2 (0, 0))) := Lib.hid (Ix.ok_fgt HOK1.out _ _ _)
  have HAL : Hid (∀ (W : World) (o : Obj), Below W.heap.size W (W.alloc o)) := Lib.hid fun W o => (Below.refl _ W).alloc (Nat.le_refl _) o
  go_enter Tryd.func5, Tryd.ntmps5
  go_wp2_with (first
    | (go_at_call 13; (with_reducible refine (K.new _).mono ?_); rintro e w1 ⟨cs0, own0, rfl, hR0, ho0, hb0⟩; have HB := Lib.hid hb0)
    | (go_at_call 14; (with_reducible refine (T.bind ⟨1, 2, ⟨#[]⟩, 0, 0⟩ hR0 Ix.ok_st0).mono ?_); rintro e w2 ⟨cs1, own1, rfl, hR1, ho1, hb1⟩; have hv := var_set K hzl hR1; have HT1 := hv.1; have HS1 := hv.2.1; have HO1 := all_oneCell_toArray (K.one hR1); obtain ⟨w3, hw3⟩ : ∃ w3, w3 = (w2.alloc (.cells z0.toArray 35)).setCells w2.heap.size 0 cs1 := ⟨_, rfl⟩; have HW3 := Lib.hid hw3; have hv2 := hv.2.2; rw [← hw3] at hv2; have HXB := Lib.hid hv2.1; have HR3 : Hid (R own1 w3 cs1 ex1) := Lib.hid hv2.2.1; have HB3 := Lib.hid (HB.out.trans ((hb1.trans (hv2.2.2.mono hb1.size)).mono HB.out.size)); have HXS : Hid ((Tryd.prog.info? 35).map (·.size) = some cs1.length) := Lib.hid (by rw [K.len hR1]; exact K.size); have kg1 := T.get (S := ex1) 1 hv2.2.1 HOK1.out; rw [ex1_b] at kg1; clear hw3 hv hv2 hb1 ho1)
    | (refine wpList_store_mid (by rfl) 35 (.tmp 1) (.tmp 8) (by rfl) w2.heap.size 0 cs1.toArray (by rfl) (by rfl) HT1 HS1 HO1 ?_; rw [List.toList_toArray, ← HW3.out])
    | (refine wpList_load_mid (by rfl) 35 (.tmp 1) (by rfl) w2.heap.size 0 (by rfl) cs1 _ HXB.out.range Tryd.underlying35 (by rfl) HXS.out ?_)
    | (go_at_call 15; (with_reducible refine kg1.mono ?_); rintro e w4 ⟨rfl, hb4⟩; have HB4 := Lib.hid (HB3.out.trans (hb4.mono HB3.out.size)); have HXA := Lib.hid (fun o => (HXB.out.below hb4).alloc o); have HRA := Lib.hid (fun o => K.on (K.on HR3.out hb4) (HAL.out w4 o)); clear hb4 kg1)
    | (refine wpList_load_mid (by rfl) 35 (.tmp 1) (by rfl) w2.heap.size 0 (by rfl) cs1 _ (HXA.out _).range Tryd.underlying35 (by rfl) HXS.out ?_)
    | (go_at_call 16; (with_reducible refine (T.drop 1 2 (HRA.out _) HOK1.out).mono ?_); rintro e w5 ⟨cs2, own2, rfl, hR2, ho2, hb5⟩; have HB5 := Lib.hid (HB4.out.trans (((HAL.out w4 _).trans (hb5.mono (HAL.out w4 _).size)).mono HB4.out.size)); have HXB5 := Lib.hid ((HXA.out _).below hb5); have HR5 := Lib.hid (K.on (HRA.out _) hb5); have kg2 := T.get 1 hR2 HOK2.out; rw [ex2_b] at kg2; clear hb5 ho2)
    | (go_at_call 15; (with_reducible refine kg2.mono ?_); rintro e w6 ⟨rfl, hb6⟩; have HB6 := Lib.hid (HB5.out.trans (hb6.mono HB5.out.size)); have HXA6 := Lib.hid (fun o => (HXB5.out.below hb6).alloc o); have HRA6 := Lib.hid (fun o => K.on (K.on HR5.out hb6) (HAL.out w6 o)); clear hb6 kg2))
  refine wp_load_mid 35 (.tmp 1) (by rfl) w2.heap.size 0 (by rfl) cs1 _ (HXA6.out _).range Tryd.underlying35 (by rfl) HXS.out ?_
  rename_i Kk hk
  refine hk _ _ ?_
  clear hk
  go_wp2_with (first
    | (go_at_call 16; (with_reducible refine (T.drop 1 2 (HRA6.out _) HOK1.out).mono ?_); rintro e w7 ⟨cs3, own3, rfl, hR3, ho3, hb7⟩; have HB7 := Lib.hid (HB6.out.trans (((HAL.out w6 _).trans (hb7.mono (HAL.out w6 _).size)).mono HB6.out.size)); have kf := T.floor 1 hR3 HOK2.out; rw [ex2_f] at kf; clear hb7 ho3)
    | (go_at_call 17; (with_reducible refine kf.mono ?_); rintro e w8 ⟨rfl, hb8⟩; have HB8 := Lib.hid (HB7.out.trans (hb8.mono HB7.out.size)); clear hb8 kf))
  go_ret
  exact ⟨rfl, HB8.out⟩
end
end Go.Proofs.YtcmhodimkpkmbaaDoor
