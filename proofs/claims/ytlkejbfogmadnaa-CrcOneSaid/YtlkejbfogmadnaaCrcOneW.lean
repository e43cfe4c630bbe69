/-
  The walk of the statement on one byte that is another one.
-/
import Derived.Test.YtlkejbfogmadnaaCrcOpen
import Derived.Test.YtlkejbfogmadnaaCrcAwake
namespace Go.Proofs.Ytlkejbfogmadnaa
open Go.ChangeShapes Go.WideShapes Go.ChangeAt Go.RowKit

set_option maxHeartbeats 1000000 in
theorem one_out (A : Option Addr) (n c : Nat) (i x : Int) (w : World) (h : 2000 < n ∨ (n ≤ 2000 ∧ i < 0) ∨ (n ≤ 2000 ∧ 0 ≤ i ∧ (n : Int) + 4 ≤ i)) :
    Calls Try.prog 5 #[.slice A n c, .int .i64 i, .int .u8 x] w fun e w' => e = .returned (.bool true) ∧ Below w.heap.size w w' := by
  rcases h with h | ⟨h1, h2⟩ | ⟨h1, h2, h3⟩
  all_goals
    go_enter Try.func5, Try.ntmps5
    go_wp2_with (go_at_call 6; refine (crcAwake_yes _).mono ?_; rintro e w' ⟨rfl, hb1⟩)
    go_ret
    exact ⟨rfl, hb1⟩

/-- a sealed row with one byte that is another one is never opened -/
theorem open_one (W : World) (g n j : Nat) (l : List UInt8) (x : UInt8) (hl : l.length = n) (hn : n ≤ 2000) (hr : Row 5 W g ((Cm.sealed l).set j x)) (hj : j < n + 4) (hx : (Cm.sealed l)[j]? ≠ some x) :
    Calls Try.prog 13 #[.slice (some ⟨g, 0, none⟩) (n + 4) (n + 4)] W fun e w' => e = .returned (.tuple #[.slice none 0 0, .int .i64 4]) ∧ ∃ m, w' = W.drewN m := by
  have hlen : ((Cm.sealed l).set j x).length = n + 4 := by rw [List.length_set, Cm.sealed_length, hl]
  have hb := hr.bs (B := W.heap.size) hr.lt
  rw [hlen] at hb
  refine (open_any (some ⟨g, 0, none⟩) (n + 4) (n + 4) _ W.heap.size W hb (Nat.le_refl _) (by omega) (Nat.le_refl _) (by omega)).mono fun e w' ho => ho.2 ?_
  have := Cm.sealed_one (l := l) (i := j) (x := x) (by omega) hx
  rw [hl] at this
  rw [Nat.add_sub_cancel]
  exact this

set_option maxHeartbeats 1000000 in
theorem one_same (A : Option Addr) (n c j : Nat) (x : UInt8) (l : List UInt8) (w : World) (hs : Bs w w.heap.size A n l) (hn : n ≤ 2000) (hj : j < n + 4) (hx : (Cm.sealed l)[j]? = some x) :
    Calls Try.prog 5 #[.slice A n c, .int .i64 (j : Int), .int .u8 (x.toNat : Int)] w fun e w' => e = .returned (.bool true) ∧ Below w.heap.size w w' := by
  have HS := Lib.hid hs
  have hln : n ≤ 140737488355328 := by omega
  have HJ : Hid (j < (Cm.sealed l).length) := Lib.hid (by rw [Cm.sealed_length, hs.1]; exact hj)
  have HX : Hid ((Cm.sealed l)[j]'HJ.out = x) := Lib.hid (by rw [List.getElem?_eq_getElem HJ.out] at hx; exact Option.some.inj hx)
  have ht : ((x.toNat : Int) == (x.toNat : Int)) = true := by simp
  have hne : ((n : Int) + 4 != (n : Int) + 4) = false := by simp
  clear hs hx
  go_enter Try.func5, Try.ntmps5
  go_wp2_with (first
    | (go_at_call 6; refine (crcAwake_yes _).mono ?_; rintro e w1 ⟨rfl, hb1⟩)
    | (go_at_call 12; refine (seal_any A n c l w.heap.size w1 (HS.out.below hb1) hb1.size hln).mono ?_; rintro e w2 ⟨rfl, HR, hb2⟩
       have hcell := HR.cell HJ.out
       rw [HX.out] at hcell))
  go_ret
  exact ⟨rfl, hb1.trans (hb2.mono hb1.size)⟩

set_option maxHeartbeats 1000000 in
theorem one_in (A : Option Addr) (n c j : Nat) (x : UInt8) (l : List UInt8) (w : World) (hs : Bs w w.heap.size A n l) (hn : n ≤ 2000) (hj : j < n + 4) (hx : (Cm.sealed l)[j]? ≠ some x) :
    Calls Try.prog 5 #[.slice A n c, .int .i64 (j : Int), .int .u8 (x.toNat : Int)] w fun e w' => e = .returned (.bool true) ∧ Below w.heap.size w w' := by
  have HS := Lib.hid hs
  have HL : Hid (l.length = n) := Lib.hid hs.1
  have hln : n ≤ 140737488355328 := by omega
  have hln2 : n ≤ 9223372036854775807 := by omega
  have HJ : Hid (j < (Cm.sealed l).length) := Lib.hid (by rw [Cm.sealed_length, hs.1]; exact hj)
  obtain ⟨y, hy⟩ : ∃ y, y = (Cm.sealed l)[j]'HJ.out := ⟨_, rfl⟩
  have hyx : y ≠ x := by
    intro e
    apply hx
    rw [List.getElem?_eq_getElem HJ.out, ← hy, e]
  have HY := Lib.hid hy
  have HXN := Lib.hid hx
  have ht : ((y.toNat : Int) == (x.toNat : Int)) = false := by
    have : y.toNat ≠ x.toNat := fun e => hyx (UInt8.toNat_inj.1 e)
    simp
    omega
  have hne : ((n : Int) + 4 != (n : Int) + 4) = false := by simp
  clear hs hx hy hyx
  have HTK : Hid (((Cm.sealed l).set j x).take n = l.set j x) := Lib.hid (by rw [List.take_set, ← HL.out]; congr 1; simp [Cm.sealed])
  have hsum : j < n → ((Cm.sum (l.set j x) : Int) != (Cm.sum l : Int)) = true := fun hlt => by
    have hjl : j < l.length := by rw [HL.out]; exact hlt
    have h := Cm.sum_set (l := l) (x := x) hjl fun e => HXN.out (by unfold Cm.sealed; rw [List.getElem?_append_left hjl, List.getElem?_eq_getElem hjl, e])
    simp
    omega
  by_cases hjn : n ≤ j
  · clear hsum HTK
    go_enter Try.func5, Try.ntmps5
    go_wp2_with (first
      | (go_at_call 6; refine (crcAwake_yes _).mono ?_; rintro e w1 ⟨rfl, hb1⟩)
      | (go_at_call 12; refine (seal_any A n c l w.heap.size w1 (HS.out.below hb1) hb1.size hln).mono ?_; rintro e w2 ⟨rfl, HR, hb2⟩
         have hcell := HR.cell HJ.out
         rw [← HY.out] at hcell
         have hfr := HR.frozen j
         have HR3 := Lib.hid (HR.put j x)
         clear HR)
      | (go_at_call 13; refine (open_one _ w1.heap.size n j l x HL.out hn HR3.out hj HXN.out).mono ?_; rintro e w3 ⟨rfl, m, rfl⟩))
    go_ret
    exact ⟨rfl, below_drewN ((hb1.trans (hb2.mono hb1.size)).setCell hb1.size _) m⟩
  · have hlt : j < n := by omega
    have hts := hsum hlt
    obtain ⟨s1, h1⟩ : ∃ s1, s1 = Cm.sum (l.set j x) := ⟨_, rfl⟩
    obtain ⟨s2, h2⟩ : ∃ s2, s2 = Cm.sum l := ⟨_, rfl⟩
    rw [← h1, ← h2] at hts
    have H1 := Lib.hid h1
    have H2 := Lib.hid h2
    clear hsum hjn h1 h2
    go_enter Try.func5, Try.ntmps5
    go_wp2_with (first
      | (go_at_call 6; refine (crcAwake_yes _).mono ?_; rintro e w1 ⟨rfl, hb1⟩)
      | (go_at_call 12; refine (seal_any A n c l w.heap.size w1 (HS.out.below hb1) hb1.size hln).mono ?_; rintro e w2 ⟨rfl, HR, hb2⟩
         have hcell := HR.cell HJ.out
         rw [← HY.out] at hcell
         have hfr := HR.frozen j
         have HR3 := Lib.hid (HR.put j x)
         clear HR)
      | (go_at_call 13; refine (open_one _ w1.heap.size n j l x HL.out hn HR3.out hj HXN.out).mono ?_; rintro e w3 ⟨rfl, m, rfl⟩
         have hbs1 := ((HR3.out.bs HR3.out.lt).front (k := n) (by rw [List.length_set, Cm.sealed_length, HL.out]; omega)).drewN m
         rw [HTK.out] at hbs1
         have cs1 := fun c => sum_any (some ⟨w1.heap.size, 0, none⟩) n c (l.set j x) _ _ hbs1 hln2
         have cs2 := sum_any A n c l _ _ ((HS.out.below ((hb1.trans (hb2.mono hb1.size)).setCell (p := ⟨w1.heap.size, j, none⟩) hb1.size (.int .u8 (x.toNat : Int)))).drewN m) hln2
         rw [← H1.out] at cs1
         rw [← H2.out] at cs2
         clear hbs1)
      | (go_at_call 8; with_reducible refine (cs1 _).mono ?_; rintro e w' ⟨rfl, rfl⟩)
      | (go_at_call 8; with_reducible refine cs2.mono ?_; rintro e w' ⟨rfl, rfl⟩))
    go_ret
    exact ⟨rfl, below_drewN ((hb1.trans (hb2.mono hb1.size)).setCell hb1.size _) m⟩

/-- for every argument -/
theorem one_walk (A : Option Addr) (n c : Nat) (l : List UInt8) (i x : Int) (w : World) (hs : Bs w w.heap.size A n l) (_ : n ≤ c) (_ : -9223372036854775808 ≤ i) (_ : i ≤ 9223372036854775807) (hx0 : 0 ≤ x) (hx1 : x ≤ 255) :
    Calls Try.prog 5 #[.slice A n c, .int .i64 i, .int .u8 x] w fun e w' => e = .returned (.bool true) ∧ Below w.heap.size w w' := by
  by_cases h : n ≤ 2000 ∧ 0 ≤ i ∧ i < (n : Int) + 4
  · obtain ⟨h1, h2, h3⟩ := h
    obtain ⟨j, rfl⟩ : ∃ j : Nat, i = (j : Int) := ⟨i.toNat, by omega⟩
    obtain ⟨y, rfl⟩ : ∃ y : UInt8, x = (y.toNat : Int) := ⟨UInt8.ofNat x.toNat, by simp; omega⟩
    by_cases hy : (Cm.sealed l)[j]? = some y
    · exact one_same A n c j y l w hs h1 (by omega) hy
    · exact one_in A n c j y l w hs h1 (by omega) hy
  · exact one_out A n c i x w (by omega)
end Go.Proofs.Ytlkejbfogmadnaa
