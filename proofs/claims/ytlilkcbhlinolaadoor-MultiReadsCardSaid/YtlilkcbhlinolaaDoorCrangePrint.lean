/-
  Contract of crange.Print.
-/
import Derived.Test.YtlilkcbhlinolaaDoorCrangeRight
import Derived.Test.YtlilkcbhlinolaaDoorNumsPrint
import Derived.Test.YtlilkcbhlinolaaDoorTextStr
import Derived.Deep.RegionHeld3
import Derived.Lib.AppendIntMem
namespace Go.Proofs.YtlilkcbhlinolaaDoor
open Go.ChangeShapes Go.WideShapes Go.ChangeAt Go.RowKit

/-- the four cells as they lie, and nothing of what was there turned -/
def Box (w : World) (k : Bool) (a b n : Int) (w' : World) : Prop :=
  Below w.heap.size w w' ∧ w.heap.size < w'.heap.size ∧ w'.cell? ⟨w.heap.size, 0, none⟩ = some (.bool k) ∧ w'.cell? ⟨w.heap.size, 1, none⟩ = some (.int .i64 a) ∧
    w'.cell? ⟨w.heap.size, 2, none⟩ = some (.int .i64 b) ∧ w'.cell? ⟨w.heap.size, 3, none⟩ = some (.int .i64 n)
section
variable {w w1 w2 : World} {k : Bool} {a b n : Int}
theorem Box.new (w : World) (k : Bool) (a b n : Int) (t : TypeId) : Box w k a b n (w.alloc (.cells #[.bool k, .int .i64 a, .int .i64 b, .int .i64 n] t)) := by
  obtain ⟨h1, h2, h3, h4, h5, _⟩ := Four.new w (.bool k) (.int .i64 a) (.int .i64 b) (.int .i64 n) t
  exact ⟨below_new4 _ _, h1, h2, h3, h4, h5⟩
theorem Box.next (h : Box w k a b n w1) (hb : Below w1.heap.size w1 w2) : Box w k a b n w2 := by
  obtain ⟨h0, h1, h2, h3, h4, h5⟩ := h
  exact ⟨h0.trans (hb.mono h0.size), Nat.lt_of_lt_of_le h1 hb.size, (hb.cell (p := ⟨w.heap.size, 0, none⟩) h1).trans h2, (hb.cell (p := ⟨w.heap.size, 1, none⟩) h1).trans h3,
    (hb.cell (p := ⟨w.heap.size, 2, none⟩) h1).trans h4, (hb.cell (p := ⟨w.heap.size, 3, none⟩) h1).trans h5⟩
theorem Box.drew (h : Box w k a b n w1) : Box w k a b n w1.drew := by
  obtain ⟨h0, h1, h2, h3, h4, h5⟩ := h
  exact ⟨h0.drew, h1, by simpa using h2, by simpa using h3, by simpa using h4, by simpa using h5⟩
end

theorem crPrint_no (k : Bool) (a b n : Int) (w : World)
    (cr : ∀ W, Calls Tryd.prog 52 #[.agg #[.bool k, .int .i64 a, .int .i64 b, .int .i64 n]] W fun e w' => e = .returned (.bool false) ∧ Below W.heap.size W w') :
    Calls Tryd.prog 43 #[.agg #[.bool k, .int .i64 a, .int .i64 b, .int .i64 n]] w fun e w' => e = .returned (.string (Str [])) ∧ Below w.heap.size w w' := by
  have hP := Box.new w k a b n 52
  have HP := Lib.hid hP
  clear hP
  go_enter Tryd.func43, Tryd.ntmps43
  go_wp2_with (go_at_call 52; refine (cr _).mono ?_; rintro e w1 ⟨rfl, hb⟩; replace HP := Lib.hid (HP.out.next hb); clear hb)
  go_ret
  exact ⟨rfl, HP.out.1⟩

set_option maxHeartbeats 2000000 in
theorem crPrint_known (t : Bool) (a b n : Int) (A B C : ByteArray) (w : World) (hb0 : 1 ≤ b) (hb1 : b ≤ 4611686018427387903) (hA : A.size ≤ 21) (hB : B.size ≤ 21) (hC : C.size ≤ 21)
    (cr : ∀ W, Calls Tryd.prog 52 #[.agg #[.bool true, .int .i64 a, .int .i64 b, .int .i64 n]] W fun e w' => e = .returned (.bool true) ∧ Below W.heap.size W w')
    (ct : ∀ W, Calls Tryd.prog 54 #[.agg #[.bool true, .int .i64 a, .int .i64 b, .int .i64 n]] W fun e w' => e = .returned (.bool t) ∧ Below W.heap.size W w')
    (ca : ∀ W, Below w.heap.size w W → Calls Tryd.prog 53 #[.int .i64 a] W fun e w' => e = .returned (.string A) ∧ Below W.heap.size W w')
    (cb : ∀ W, Below w.heap.size w W → Calls Tryd.prog 53 #[.int .i64 (b - 1)] W fun e w' => e = .returned (.string B) ∧ Below W.heap.size W w')
    (cn : ∀ W, Below w.heap.size w W → Calls Tryd.prog 53 #[.int .i64 n] W fun e w' => e = .returned (.string C) ∧ Below W.heap.size W w') :
    Calls Tryd.prog 43 #[.agg #[.bool true, .int .i64 a, .int .i64 b, .int .i64 n]] w fun e w' =>
      ∃ X : ByteArray, e = .returned (.string X) ∧ X.data.toList = [98, 121, 116, 101, 115, 32] ++ (A.data.toList ++ [45] ++ B.data.toList) ++ [47] ++ (if t then C.data.toList else [42]) ∧ Below w.heap.size w w' := by
  have HP := Lib.hid (Box.new w true a b n 52)
  have hw : IntKind.i64.wrap (b - 1) = b - 1 := IntWalk.i64_in _ (by omega)
  have n1 : ¬ 9223372036854775807 < A.size + 1 := by omega
  have n2 : ¬ 9223372036854775807 < A.size + 1 + B.size := by omega
  have n3 : ¬ 9223372036854775806 < A.size := by omega
  have s3 : 6 + (A.size + 1 + B.size) ≤ 9223372036854775807 := by omega
  have s4 : 6 + (A.size + 1 + B.size) + 1 ≤ 9223372036854775807 := by omega
  have s5 : 6 + (A.size + 1 + B.size) + 1 + C.size ≤ 9223372036854775807 := by omega
  have s6 : 6 + (A.size + 1 + B.size) + 1 + 1 ≤ 9223372036854775807 := by omega
  cases t
  all_goals
    go_enter Tryd.func43, Tryd.ntmps43
    go_wp2_with (go_at_call 52; refine (cr _).mono ?_; rintro e w1 ⟨rfl, hb⟩; replace HP := Lib.hid (HP.out.next hb); clear hb; obtain ⟨p0, p1, p2, p3, p4, p5⟩ := HP.out)
    have hP : Box w true a b n w1.drew := HP.out.drew
    clear HP p0 p1 p2 p3 p4 p5
    go_region_held3 (fun w' => Below w.heap.size w w' ∧ w.heap.size < w'.heap.size ∧ w'.cell? ⟨w.heap.size, 0, none⟩ = some (.bool true) ∧ w'.cell? ⟨w.heap.size, 1, none⟩ = some (.int .i64 a) ∧
        w'.cell? ⟨w.heap.size, 2, none⟩ = some (.int .i64 b) ∧ w'.cell? ⟨w.heap.size, 3, none⟩ = some (.int .i64 n)) (exact hP)
      (first | (go_at_call 53; have hq := hP.1; (first | (with_reducible refine (ca _ hq).mono ?_) | (with_reducible refine (cb _ hq).mono ?_)); clear hq; rintro e w' ⟨rfl, hb⟩; replace hP := Box.next hP hb) | fail)
    go_wp2_with (first
      | (go_at_call 54; refine (ct _).mono ?_; rintro e w2 ⟨rfl, hb⟩; replace hP := Box.next hP hb; obtain ⟨p0, p1, p2, p3, p4, p5⟩ := hP)
      | (go_at_call 53; (with_reducible refine (cn _ p0).mono ?_); rintro e w3 ⟨rfl, hb⟩; replace p0 := p0.trans (hb.mono p0.size)))
    go_ret
    exact ⟨_, rfl, by simp, p0⟩

theorem crPrint_not (t : Bool) (a b n : Int) (C : ByteArray) (w : World) (hC : C.size ≤ 21)
    (cr : ∀ W, Calls Tryd.prog 52 #[.agg #[.bool false, .int .i64 a, .int .i64 b, .int .i64 n]] W fun e w' => e = .returned (.bool true) ∧ Below W.heap.size W w')
    (ct : ∀ W, Calls Tryd.prog 54 #[.agg #[.bool false, .int .i64 a, .int .i64 b, .int .i64 n]] W fun e w' => e = .returned (.bool t) ∧ Below W.heap.size W w')
    (cn : ∀ W, Below w.heap.size w W → Calls Tryd.prog 53 #[.int .i64 n] W fun e w' => e = .returned (.string C) ∧ Below W.heap.size W w') :
    Calls Tryd.prog 43 #[.agg #[.bool false, .int .i64 a, .int .i64 b, .int .i64 n]] w fun e w' =>
      ∃ X : ByteArray, e = .returned (.string X) ∧ X.data.toList = [98, 121, 116, 101, 115, 32] ++ [42] ++ [47] ++ (if t then C.data.toList else [42]) ∧ Below w.heap.size w w' := by
  have HP := Lib.hid (Box.new w false a b n 52)
  have s5 : 8 + C.size ≤ 9223372036854775807 := by omega
  cases t
  all_goals
    go_enter Tryd.func43, Tryd.ntmps43
    go_wp2_with (first
      | (go_at_call 52; refine (cr _).mono ?_; rintro e w1 ⟨rfl, hb⟩; replace HP := Lib.hid (HP.out.next hb); clear hb; obtain ⟨p0, p1, p2, p3, p4, p5⟩ := HP.out)
      | (go_at_call 54; refine (ct _).mono ?_; rintro e w2 ⟨rfl, hb⟩; replace HP := Lib.hid (HP.out.next hb); clear hb; obtain ⟨q0, q1, q2, q3, q4, q5⟩ := HP.out)
      | (go_at_call 53; (with_reducible refine (cn _ q0).mono ?_); rintro e w3 ⟨rfl, hb⟩; replace q0 := q0.trans (hb.mono q0.size)))
    go_ret
    exact ⟨_, rfl, by simp, q0⟩

/-- what is said of bytes, as a text -/
def Cr.printL (k : Bool) (a b n : Int) : List UInt8 :=
  if Cr.rightB k a b n then [98, 121, 116, 101, 115, 32] ++ (if k then Lib.itoa a ++ [45] ++ Lib.itoa (b - 1) else [42]) ++ [47] ++ (if n != -1 then Lib.itoa n else [42]) else []
theorem Cr.right_known {a b n : Int} (h : Cr.rightB true a b n = true) : 0 ≤ a ∧ a < b ∧ b ≤ 4611686018427387903 ∧ (n = -1 ∨ (0 ≤ n ∧ n ≤ 4611686018427387903 ∧ b ≤ n)) := by
  unfold Cr.rightB Cr.rv Cr.spanB at h
  by_cases hn : n = -1
  · subst hn
    simp at h
    omega
  · simp [hn] at h
    omega
theorem Cr.right_not {a b n : Int} (h : Cr.rightB false a b n = true) : a = 0 ∧ b = 0 ∧ 0 ≤ n ∧ n ≤ 4611686018427387903 := by
  unfold Cr.rightB Cr.rv Cr.spanB at h
  by_cases hn : n = -1
  · subst hn
    simp at h
  · simp [hn] at h
    omega
theorem itoa_size (n : Int) (h0 : -9223372036854775808 ≤ n) (h1 : n ≤ 9223372036854775807) : (Str (Lib.itoa n)).size ≤ 21 := by
  rw [str_size]; exact Lib.itoa_length_le n h0 h1
abbrev Tab (w : World) : Prop := Lib.TabBelow Tryd.prog w.heap.size w "internal/strconv.uint64pow10" .u64 Lib.pow10Tab
theorem Tab.on {w w1 : World} (h : Tab w) (hb : Below w.heap.size w w1) : Tab w1 := fun w' h' => h w' (hb.trans (h'.mono hb.size))

theorem crPrint_any (k : Bool) (a b n : Int) (w : World) (htab : Tab w) :
    Calls Tryd.prog 43 #[.agg #[.bool k, .int .i64 a, .int .i64 b, .int .i64 n]] w fun e w' => e = .returned (.string (Str (Cr.printL k a b n))) ∧ Below w.heap.size w w' := by
  have cr := fun W => crRight_any k a b n W
  by_cases hr : Cr.rightB k a b n = true
  · rw [hr] at cr
    cases k
    · obtain ⟨rfl, rfl, h2, h3⟩ := Cr.right_not hr
      refine (crPrint_not _ 0 0 n (Str (Lib.itoa n)) w (itoa_size n (by omega) (by omega)) cr (fun W => told_any _ _ _ n W) (fun W hb => print_any n W (by omega) (by omega) (htab W hb))).mono ?_
      rintro e w' ⟨X, rfl, hX, hb⟩
      refine ⟨?_, hb⟩
      rw [str_of hX]
      unfold Cr.printL
      rw [hr, str_list]
      rfl
    · obtain ⟨h1, h2, h3, h4⟩ := Cr.right_known hr
      refine (crPrint_known _ a b n (Str (Lib.itoa a)) (Str (Lib.itoa (b - 1))) (Str (Lib.itoa n)) w (by omega) (by omega) (itoa_size a (by omega) (by omega)) (itoa_size (b - 1) (by omega) (by omega)) (itoa_size n (by omega) (by omega)) cr (fun W => told_any _ _ _ n W)
        (fun W hb => print_any a W (by omega) (by omega) (htab W hb)) (fun W hb => print_any (b - 1) W (by omega) (by omega) (htab W hb)) (fun W hb => print_any n W (by omega) (by omega) (htab W hb))).mono ?_
      rintro e w' ⟨X, rfl, hX, hb⟩
      refine ⟨?_, hb⟩
      rw [str_of hX]
      unfold Cr.printL
      rw [hr, str_list, str_list, str_list]
      rfl
  · rw [show Cr.rightB k a b n = false by simpa using hr] at cr
    unfold Cr.printL
    rw [if_neg hr]
    exact crPrint_no k a b n w cr
end Go.Proofs.YtlilkcbhlinolaaDoor
