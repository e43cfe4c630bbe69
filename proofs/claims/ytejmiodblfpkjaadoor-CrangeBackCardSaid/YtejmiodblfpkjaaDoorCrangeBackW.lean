/-
  The walk of the statement CrangeBack.
-/
import Derived.Test.YtejmiodblfpkjaaDoorCrangeMath
import Derived.Test.YtejmiodblfpkjaaDoorRefCrangePrint
import Derived.Test.YtejmiodblfpkjaaDoorCrangeOf
import Derived.Deep.RegionHeld3
namespace Go.Proofs.YtejmiodblfpkjaaDoor
open Go.ChangeShapes Go.WideShapes Go.ChangeAt Go.RowKit

/-- the two structs as they lie, and nothing of what was there turned -/
def Bx (w : World) (k : Bool) (a b n c d : Int) (w' : World) : Prop :=
  Below w.heap.size w w' ∧ w.heap.size < w'.heap.size ∧ w.heap.size + 1 < w'.heap.size ∧
    w'.cell? ⟨w.heap.size, 0, none⟩ = some (.bool k) ∧ w'.cell? ⟨w.heap.size, 1, none⟩ = some (.int .i64 a) ∧ w'.cell? ⟨w.heap.size, 2, none⟩ = some (.int .i64 b) ∧ w'.cell? ⟨w.heap.size, 3, none⟩ = some (.int .i64 n) ∧
    w'.cell? ⟨w.heap.size + 1, 0, none⟩ = some (.int .i64 c) ∧ w'.cell? ⟨w.heap.size + 1, 1, none⟩ = some (.int .i64 d)
section
variable {w wx w' : World} {k : Bool} {a b n c d : Int}
theorem Bx.new (w : World) (k : Bool) (a b n c d : Int) (t u : TypeId) : Bx w k a b n c d ((w.alloc (.cells #[.bool k, .int .i64 a, .int .i64 b, .int .i64 n] t)).alloc (.cells #[.int .i64 c, .int .i64 d] u)) := by
  obtain ⟨h1, h2, h3, h4, h5, _⟩ := (Four.new w (.bool k) (.int .i64 a) (.int .i64 b) (.int .i64 n) t).alloc (.cells #[.int .i64 c, .int .i64 d] u)
  obtain ⟨k1, k2, k3⟩ := Two.second w (.cells #[.bool k, .int .i64 a, .int .i64 b, .int .i64 n] t) (.int .i64 c) (.int .i64 d) u
  exact ⟨(below_new4 w _).alloc (by simp) _, h1, k1, h2, h3, h4, h5, k2, k3⟩
theorem Bx.next (h : Bx w k a b n c d wx) (hb : Below wx.heap.size wx w') : Bx w k a b n c d w' := by
  obtain ⟨h1, h2, h3, h4, h5, h6, h7, h8, h9⟩ := h
  exact ⟨h1.trans (hb.mono h1.size), Nat.lt_of_lt_of_le h2 hb.size, Nat.lt_of_lt_of_le h3 hb.size, (hb.cell (p := ⟨w.heap.size, 0, none⟩) h2).trans h4, (hb.cell (p := ⟨w.heap.size, 1, none⟩) h2).trans h5,
    (hb.cell (p := ⟨w.heap.size, 2, none⟩) h2).trans h6, (hb.cell (p := ⟨w.heap.size, 3, none⟩) h2).trans h7, (hb.cell (p := ⟨w.heap.size + 1, 0, none⟩) h3).trans h8, (hb.cell (p := ⟨w.heap.size + 1, 1, none⟩) h3).trans h9⟩
theorem Bx.drew (h : Bx w k a b n c d wx) : Bx w k a b n c d wx.drew := by
  obtain ⟨h1, h2, h3, h4, h5, h6, h7, h8, h9⟩ := h
  exact ⟨h1.drew, h2, h3, by simpa using h4, by simpa using h5, by simpa using h6, by simpa using h7, by simpa using h8, by simpa using h9⟩
theorem Bx.alloc (h : Bx w k a b n c d wx) (o : Obj) : Bx w k a b n c d (wx.alloc o) := h.next (below_new4 _ _)
end

set_option maxHeartbeats 8000000 in
theorem crangeBack_yes (k : Bool) (a b n c d m : Int) (P Q : ByteArray) (w : World)
    (ca : ∀ W, Below w.heap.size w W → Calls Tryd.prog 6 #[] W fun e w' => e = .returned (.bool true) ∧ Below W.heap.size W w')
    (cp : ∀ W, Below w.heap.size w W → Calls Tryd.prog 9 #[.agg #[.bool k, .int .i64 a, .int .i64 b, .int .i64 n]] W fun e w' => e = .returned (.string P) ∧ Below W.heap.size W w')
    (cr : ∀ W, Calls Tryd.prog 10 #[.agg #[.bool k, .int .i64 a, .int .i64 b, .int .i64 n]] W fun e w' => e = .returned (.bool true) ∧ Below W.heap.size W w')
    (dr : ∀ W, Calls Tryd.prog 11 #[.agg #[.bool k, .int .i64 a, .int .i64 b, .int .i64 n]] W fun e w' => e = .returned (.bool true) ∧ Below W.heap.size W w')
    (dp : ∀ W, Calls Tryd.prog 12 #[.agg #[.bool k, .int .i64 a, .int .i64 b, .int .i64 n]] W fun e w' => e = .returned (.string P) ∧ Below W.heap.size W w')
    (co : ∀ W, Below w.heap.size w W → Calls Tryd.prog 13 #[.agg #[.int .i64 c, .int .i64 d], .int .i64 m] W fun e w' => e = .returned (.string Q) ∧ Below W.heap.size W w')
    (dq : ∀ W, Calls Tryd.prog 12 #[.agg #[.bool true, .int .i64 c, .int .i64 d, .int .i64 m]] W fun e w' => e = .returned (.string Q) ∧ Below W.heap.size W w')
    (cq : ∀ W, Calls Tryd.prog 7 #[.string P] W fun e w' => e = .returned (.tuple #[.agg #[.bool k, .int .i64 a, .int .i64 b, .int .i64 n], .int .i64 0]) ∧ Below W.heap.size W w') :
    Calls Tryd.prog 4 #[.agg #[.bool k, .int .i64 a, .int .i64 b, .int .i64 n], .agg #[.int .i64 c, .int .i64 d], .int .i64 m] w fun e w' => e = .returned (.bool true) ∧ Below w.heap.size w w' := by
  have HX := Lib.hid (Bx.new w k a b n c d 26 24)
  go_enter Tryd.func4, Tryd.ntmps4
  go_wp2_with (first
    | (go_at_call 6; have hq := HX.out.1; (with_reducible refine (ca _ hq).mono ?_); clear hq; rintro e w1 ⟨rfl, hb⟩; replace HX := Lib.hid (HX.out.next hb); clear hb; obtain ⟨x0, x1, x2, x3, x4, x5, x6, x7, x8⟩ := HX.out)
    | (go_at_call 9; have hq := HX.out.1; (with_reducible refine (cp _ hq).mono ?_); clear hq; rintro e w2 ⟨rfl, hb⟩; replace HX := Lib.hid (HX.out.next hb); clear hb))
  have hP : Bx w k a b n c d w2.drew := HX.out.drew
  clear HX x0 x1 x2 x3 x4 x5 x6 x7 x8
  go_region_held3 (fun w' => Below w.heap.size w w' ∧ w.heap.size < w'.heap.size ∧ w.heap.size + 1 < w'.heap.size ∧
      w'.cell? ⟨w.heap.size, 0, none⟩ = some (.bool k) ∧ w'.cell? ⟨w.heap.size, 1, none⟩ = some (.int .i64 a) ∧ w'.cell? ⟨w.heap.size, 2, none⟩ = some (.int .i64 b) ∧ w'.cell? ⟨w.heap.size, 3, none⟩ = some (.int .i64 n) ∧
      w'.cell? ⟨w.heap.size + 1, 0, none⟩ = some (.int .i64 c) ∧ w'.cell? ⟨w.heap.size + 1, 1, none⟩ = some (.int .i64 d)) (exact hP)
    (first
      | (go_at_call 10; (with_reducible refine (cr _).mono ?_); rintro e w' ⟨rfl, hb⟩; replace hP := Bx.next hP hb)
      | (go_at_call 11; (with_reducible refine (dr _).mono ?_); rintro e w' ⟨rfl, hb⟩; replace hP := Bx.next hP hb)
      | (go_at_call 12; (first | (with_reducible refine (dp _).mono ?_) | (with_reducible refine (dq _).mono ?_)); rintro e w' ⟨rfl, hb⟩; replace hP := Bx.next hP hb)
      | (go_at_call 13; have hq := hP.1; (with_reducible refine (co _ hq).mono ?_); clear hq; rintro e w' ⟨rfl, hb⟩; replace hP := Bx.next hP hb))
  go_wp2_with (first
    | (go_at_call 7; (with_reducible refine (cq _).mono ?_); rintro e w4 ⟨rfl, hb⟩; replace hP := Bx.next hP hb; clear hb; have HY := Lib.hid hP; obtain ⟨y0, y1, y2, y3, y4, y5, y6, y7, y8⟩ := hP)
    | (go_at_call 11; (with_reducible refine (dr _).mono ?_); rintro e w5 ⟨rfl, hb⟩; obtain ⟨z0, z1, z2, z3, z4, _⟩ := (Four.new _ _ _ _ _ _).below hb; replace HY := Lib.hid ((HY.out.alloc _).next hb); clear hb; obtain ⟨y0, y1, y2, y3, y4, y5, y6, y7, y8⟩ := HY.out))
  go_ret
  exact ⟨by simp, HY.out.1⟩
set_option maxHeartbeats 8000000 in
theorem crangeBack_no (k : Bool) (a b n c d m : Int) (P Q : ByteArray) (w : World) (_ : P.toList.isEmpty = true) (_ : (P.toList == []) = true)
    (ca : ∀ W, Below w.heap.size w W → Calls Tryd.prog 6 #[] W fun e w' => e = .returned (.bool true) ∧ Below W.heap.size W w')
    (cp : ∀ W, Below w.heap.size w W → Calls Tryd.prog 9 #[.agg #[.bool k, .int .i64 a, .int .i64 b, .int .i64 n]] W fun e w' => e = .returned (.string P) ∧ Below W.heap.size W w')
    (cr : ∀ W, Calls Tryd.prog 10 #[.agg #[.bool k, .int .i64 a, .int .i64 b, .int .i64 n]] W fun e w' => e = .returned (.bool false) ∧ Below W.heap.size W w')
    (dr : ∀ W, Calls Tryd.prog 11 #[.agg #[.bool k, .int .i64 a, .int .i64 b, .int .i64 n]] W fun e w' => e = .returned (.bool false) ∧ Below W.heap.size W w')
    (dp : ∀ W, Calls Tryd.prog 12 #[.agg #[.bool k, .int .i64 a, .int .i64 b, .int .i64 n]] W fun e w' => e = .returned (.string P) ∧ Below W.heap.size W w')
    (co : ∀ W, Below w.heap.size w W → Calls Tryd.prog 13 #[.agg #[.int .i64 c, .int .i64 d], .int .i64 m] W fun e w' => e = .returned (.string Q) ∧ Below W.heap.size W w')
    (dq : ∀ W, Calls Tryd.prog 12 #[.agg #[.bool true, .int .i64 c, .int .i64 d, .int .i64 m]] W fun e w' => e = .returned (.string Q) ∧ Below W.heap.size W w')
    (cq : ∀ W, Calls Tryd.prog 7 #[.string P] W fun e w' => e = .returned (.tuple #[.agg #[.bool false, .int .i64 0, .int .i64 0, .int .i64 0], .int .i64 3]) ∧ Below W.heap.size W w') :
    Calls Tryd.prog 4 #[.agg #[.bool k, .int .i64 a, .int .i64 b, .int .i64 n], .agg #[.int .i64 c, .int .i64 d], .int .i64 m] w fun e w' => e = .returned (.bool true) ∧ Below w.heap.size w w' := by
  have HX := Lib.hid (Bx.new w k a b n c d 26 24)
  go_enter Tryd.func4, Tryd.ntmps4
  go_wp2_with (first
    | (go_at_call 6; have hq := HX.out.1; (with_reducible refine (ca _ hq).mono ?_); clear hq; rintro e w1 ⟨rfl, hb⟩; replace HX := Lib.hid (HX.out.next hb); clear hb; obtain ⟨x0, x1, x2, x3, x4, x5, x6, x7, x8⟩ := HX.out)
    | (go_at_call 9; have hq := HX.out.1; (with_reducible refine (cp _ hq).mono ?_); clear hq; rintro e w2 ⟨rfl, hb⟩; replace HX := Lib.hid (HX.out.next hb); clear hb))
  have hP : Bx w k a b n c d w2.drew := HX.out.drew
  clear HX x0 x1 x2 x3 x4 x5 x6 x7 x8
  go_region_held3 (fun w' => Below w.heap.size w w' ∧ w.heap.size < w'.heap.size ∧ w.heap.size + 1 < w'.heap.size ∧
      w'.cell? ⟨w.heap.size, 0, none⟩ = some (.bool k) ∧ w'.cell? ⟨w.heap.size, 1, none⟩ = some (.int .i64 a) ∧ w'.cell? ⟨w.heap.size, 2, none⟩ = some (.int .i64 b) ∧ w'.cell? ⟨w.heap.size, 3, none⟩ = some (.int .i64 n) ∧
      w'.cell? ⟨w.heap.size + 1, 0, none⟩ = some (.int .i64 c) ∧ w'.cell? ⟨w.heap.size + 1, 1, none⟩ = some (.int .i64 d)) (exact hP)
    (first
      | (go_at_call 10; (with_reducible refine (cr _).mono ?_); rintro e w' ⟨rfl, hb⟩; replace hP := Bx.next hP hb)
      | (go_at_call 11; (with_reducible refine (dr _).mono ?_); rintro e w' ⟨rfl, hb⟩; replace hP := Bx.next hP hb)
      | (go_at_call 12; (first | (with_reducible refine (dp _).mono ?_) | (with_reducible refine (dq _).mono ?_)); rintro e w' ⟨rfl, hb⟩; replace hP := Bx.next hP hb)
      | (go_at_call 13; have hq := hP.1; (with_reducible refine (co _ hq).mono ?_); clear hq; rintro e w' ⟨rfl, hb⟩; replace hP := Bx.next hP hb))
  go_wp2_with (first
    | (go_at_call 7; (with_reducible refine (cq _).mono ?_); rintro e w4 ⟨rfl, hb⟩; replace hP := Bx.next hP hb; clear hb; have HY := Lib.hid hP; obtain ⟨y0, y1, y2, y3, y4, y5, y6, y7, y8⟩ := hP)
    | (go_at_call 11; (with_reducible refine (dr _).mono ?_); rintro e w5 ⟨rfl, hb⟩; obtain ⟨z0, z1, z2, z3, z4, _⟩ := (Four.new _ _ _ _ _ _).below hb; replace HY := Lib.hid ((HY.out.alloc _).next hb); clear hb; obtain ⟨y0, y1, y2, y3, y4, y5, y6, y7, y8⟩ := HY.out))
  go_ret
  exact ⟨by simp, HY.out.1⟩

theorem crangeBack_walk (k : Bool) (a b n c d m : Int) (w : World) (_ : -9223372036854775808 ≤ m) (_ : m ≤ 9223372036854775807) (ht : Lib.TabIs Tryd.prog w "internal/strconv.uint64pow10" .u64 Lib.pow10Tab) :
    Calls Tryd.prog 4 #[.agg #[.bool k, .int .i64 a, .int .i64 b, .int .i64 n], .agg #[.int .i64 c, .int .i64 d], .int .i64 m] w fun e w' => e = .returned (.bool true) ∧ Below w.heap.size w w' := by
  have htab : Tab w := Lib.tabBelow_of_tabIs ht
  have hl := Cr.print_len k a b n
  have cq := fun W => crParse_any (Str (Cr.printL k a b n)) W (by rw [str_size]; unfold maxLen; omega)
  rw [str_list] at cq
  have cr := fun W => crRight_any k a b n W
  have dr := fun W => refRightContent_any k a b n W
  cases hr : Cr.rightB k a b n with
  | true =>
    rw [hr] at cr dr
    rw [Cr.back hr] at cq
    exact crangeBack_yes k a b n c d m _ _ w (fun W hb => crAwake_yes W (htab.on hb)) (fun W hb => crPrint_any k a b n W (htab.on hb)) cr dr (fun W => refPC_any k a b n W) (fun W hb => of_any c d m W (htab.on hb)) (fun W => refPC_any true c d m W) cq
  | false =>
    rw [hr] at cr dr
    have e : Cr.printL k a b n = [] := by unfold Cr.printL; rw [hr]; rfl
    rw [e, Cr.parse_none] at cq
    have cp := fun W (hb : Below w.heap.size w W) => crPrint_any k a b n W (htab.on hb)
    have dp := fun W => refPC_any k a b n W
    rw [e] at cp dp
    exact crangeBack_no k a b n c d m _ _ w (isEmpty_of (str_list [])) (by rw [Lib.toList_data, str_list]; rfl) (fun W hb => crAwake_yes W (htab.on hb)) cp cr dr dp (fun W hb => of_any c d m W (htab.on hb)) (fun W => refPC_any true c d m W) cq
end Go.Proofs.YtejmiodblfpkjaaDoor
