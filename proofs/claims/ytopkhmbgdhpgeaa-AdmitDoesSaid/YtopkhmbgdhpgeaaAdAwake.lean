/-
  The example, by DoorPrg.
-/
import Derived.Test.YtopkhmbgdhpgeaaAdLay
namespace Go.Proofs.Ytopkhmbgdhpgeaa
open Go.ChangeShapes Go.WideShapes Go.ChangeAt Go.RowKit
set_option maxRecDepth 100000

theorem awake_any {D : Ad.St → List Value} {z : Nat} (P : DoorPrg D z) (w : World) : Calls Try.prog 5 #[] w fun e w' => e = .returned (.bool true) ∧ Below w.heap.size w w' := by
  obtain ⟨Z, hZ, hz⟩ := P.zero
  have ok0 := Ad.Ok.zero 0
  have ok1 := ok0.note 1
  have ok2 := ok1.note 1
  have cn := P.new
  have c1 := fun W => P.note 0 Ad.zero 1 W ok0 (by omega)
  have c2 := fun W => P.note 1 (Ad.note Ad.zero 1) 1 W ok1 (by omega)
  have c3 := fun W => P.admit 1 (Ad.note Ad.zero 1) 1 5 9 W ok1 (by omega)
  have c4 := fun W => P.admit 2 (Ad.note (Ad.note Ad.zero 1) 1) 1 5 9 W ok2 (by omega)
  rw [show Ad.admit (Ad.note Ad.zero 1) 1 5 9 = false by decide] at c3
  rw [show Ad.admit (Ad.note (Ad.note Ad.zero 1) 1) 1 5 9 = true by decide] at c4
  have HVAR : Hid (∀ W, Below w.heap.size w W → (W.alloc (.cells Z.toArray 26)).there W.heap.size 0 (D (Ad.note Ad.zero 1)).toArray.size ∧ DrIn D w ((W.alloc (.cells Z.toArray 26)).setCells W.heap.size 0 (D (Ad.note Ad.zero 1))) W.heap.size (Ad.note Ad.zero 1) ∧ Below W.heap.size W ((W.alloc (.cells Z.toArray 26)).setCells W.heap.size 0 (D (Ad.note Ad.zero 1)))) := Lib.hid fun W hb => DrIn.var P hZ hb ok1.len
  have HSZ := Lib.hid (DrSz.of P ok1.len)
  clear P ok0 ok1 ok2 hZ
  generalize Ad.note (Ad.note Ad.zero 1) 1 = s2 at *
  generalize Ad.note Ad.zero 1 = s1 at *
  generalize Ad.zero = s0 at *
  go_enter Try.func5, Try.ntmps5
  go_wp2_with (first
    | (go_at_call 6; (with_reducible refine (cn _).mono ?_); rintro e w1 ⟨rfl, hb1⟩; have HB1 := Lib.hid hb1; clear hb1 cn)
    | (go_at_call 7; (with_reducible refine (c1 _).mono ?_); rintro e w2 ⟨rfl, hb2⟩; have HB2 := Lib.hid (HB1.out.trans (hb2.mono HB1.out.size)); have HV := Lib.hid (HVAR.out w2 HB2.out); clear hb2 c1)
    | (refine wpList_store_mid (by rfl) 26 (.tmp 1) (.tmp 3) (by rfl) w2.heap.size 0 (D s1).toArray (by rfl) (by rfl) HV.out.1 HSZ.out.size HSZ.out.one ?_; rw [List.toList_toArray])
    | (refine wpList_load_mid (by rfl) 26 (.tmp 1) (by rfl) w2.heap.size 0 (by rfl) (D s1) _ HV.out.2.1.box.range Try.underlying26 (by rfl) HSZ.out.sizeL ?_)
    | (go_at_call 10; (with_reducible refine (c3 _).mono ?_); rintro e w3 ⟨rfl, hb3⟩; have HI := Lib.hid (HV.out.2.1.on hb3); clear hb3 c3)
    | (refine wpList_load_want (by rfl) 26 (.tmp 1) (by rfl) w2.heap.size 0 (by rfl) (D s1) _ HI.out.box.range Try.underlying26 (by rfl) HSZ.out.sizeL ?_)
    | (go_at_call 7; (with_reducible refine (c2 _).mono ?_); rintro e w4 ⟨rfl, hb4⟩; have HI4 := Lib.hid (HI.out.on hb4); clear hb4 c2)
    | (go_at_call 10; (with_reducible refine (c4 _).mono ?_); rintro e w5 ⟨rfl, hb5⟩; have HI5 := Lib.hid (HI4.out.on hb5); clear hb5 c4))
  go_ret
  exact ⟨rfl, HI5.out.below⟩
end Go.Proofs.Ytopkhmbgdhpgeaa
