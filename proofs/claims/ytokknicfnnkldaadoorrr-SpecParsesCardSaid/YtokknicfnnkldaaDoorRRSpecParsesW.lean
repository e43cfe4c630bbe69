/-
  The walk of the statement on the specs of any field.
-/
import Derived.Test.YtokknicfnnkldaaDoorRRSpecAwake
import Derived.Test.YtokknicfnnkldaaDoorRRSpecSame
namespace Go.Proofs.YtokknicfnnkldaaDoorRR
open Go.ChangeShapes Go.WideShapes Go.ChangeAt Go.RowKit

theorem specParses_long (s : ByteArray) (w : World) (h : 600 < s.size) :
    Calls Tryd.prog 3 #[.string s] w fun e w' => e = .returned (.bool true) ∧ Below w.heap.size w w' := by
  go_enter Tryd.func3, Tryd.ntmps3
  go_wp2_with (go_at_call 4; refine (specAwake_yes _).mono ?_; rintro e w' ⟨rfl, hb1⟩)
  go_ret
  exact ⟨rfl, hb1⟩
theorem specs_short (s : List UInt8) : (Sp.specs s).1.length ≤ s.length + 1 := by
  have h := (elems_len s).1
  unfold Sp.specs
  split
  · simp
  · unfold Sp.many
    split
    · simp
    · split
      · simp
      · split
        · simp
        · rw [List.length_map]; exact h
set_option maxHeartbeats 2000000 in
theorem specParses_short (s : ByteArray) (w : World) (h : s.size ≤ 600) :
    Calls Tryd.prog 3 #[.string s] w fun e w' => e = .returned (.bool true) ∧ Below w.heap.size w w' := by
  have c1 := fun W => specParse_any s W (by omega)
  have c2 := fun W => refSpecs_any s W (by omega)
  have c3 := fun W => asked_any s W (by omega)
  have HN := Lib.hid (specs_short s.data.toList)
  rw [size_list] at HN
  generalize Sp.specs s.data.toList = p at *
  obtain ⟨L, er⟩ := p
  have HB := Below.refl w.heap.size w
  go_enter Tryd.func3, Tryd.ntmps3
  go_wp2_with (first
    | (go_at_call 4; refine (specAwake_yes _).mono ?_; rintro e w0 ⟨rfl, hb⟩; replace HB := below_next3 HB hb; clear hb)
    | (go_at_call 5; refine (c1 _).mono ?_; intro e w1 hg; obtain ⟨A1, n1, k1, rfl, hv1, hc1, hb⟩ := givesSpecs_cut hg; clear hg; replace HB := below_next3 HB hb; clear hb)
    | (go_at_call 6; refine (c2 _).mono ?_; intro e w2 hg; obtain ⟨A2, n2, k2, rfl, hv2, hc2, hb⟩ := givesSpecs_cut hg; clear hg; obtain rfl : n2 = n1 := by { have a : L.length = n2 := hv2.out.len; have b : L.length = n1 := hv1.out.len; omega }; have HL2 : Hid (n2 ≤ 1000000) := Lib.hid (by { have a : L.length = n2 := hv2.out.len; have b : L.length ≤ s.size + 1 := HN.out; omega }); have hv3 : Hid (Ss w2 w2.heap.size A1 n2 L) := Lib.hid (Vs.mono (Vs.below hv1.out hb) (B' := w2.heap.size) hb.size); replace HB := below_next3 HB hb; clear hb)
    | (go_at_call 8; refine (c3 _).mono ?_; intro e w5 hg; obtain ⟨A5, n5, k5, rfl, hv5, hc5, hb⟩ := hg; obtain rfl : n5 = n2 := by { have a : L.length = n2 := hv2.out.len; have b : L.length = n5 := hv5.out.len; omega }; have hv6 : Hid (Ss w5 w5.heap.size A2 n5 L) := Lib.hid (Vs.mono (Vs.below (Vs.drewN hv2.out _) hb) (B' := w5.heap.size) hb.size); replace HB := below_next3 HB hb; clear hb)
    | (go_at_call 7; (first
        | ((with_reducible refine (same_yes A1 A2 _ k1 k2 w2.heap.size L _ hv3.out hv2.out HL2.out).mono ?_); rintro e w4 ⟨rfl, m, rfl⟩; replace HB := below_drewN HB m)
        | ((with_reducible refine (same_yes A5 A2 _ k5 k2 w5.heap.size L _ hv5.out hv6.out HL2.out).mono ?_); rintro e w6 ⟨rfl, m2, rfl⟩; replace HB := below_drewN HB m2))))
  go_ret
  exact ⟨rfl, HB⟩

theorem specParses_walk (s : ByteArray) (w : World) (_ : s.size ≤ maxLen) :
    Calls Tryd.prog 3 #[.string s] w fun e w' => e = .returned (.bool true) ∧ Below w.heap.size w w' := by
  by_cases h : s.size ≤ 600
  · exact specParses_short s w h
  · exact specParses_long s w (by omega)
end Go.Proofs.YtokknicfnnkldaaDoorRR
