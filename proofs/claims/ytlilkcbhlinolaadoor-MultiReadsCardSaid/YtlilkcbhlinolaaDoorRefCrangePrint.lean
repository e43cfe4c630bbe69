/-
  Contract of the document's own PrintContent.
-/
import Derived.Test.YtlilkcbhlinolaaDoorCrangePrint
import Derived.Test.YtlilkcbhlinolaaDoorRef
namespace Go.Proofs.YtlilkcbhlinolaaDoor
open Go.ChangeShapes Go.WideShapes Go.ChangeAt Go.RowKit

theorem refPC_no (k : Bool) (a b n : Int) (w : World)
    (cr : ∀ W, Calls Tryd.prog 33 #[.agg #[.bool k, .int .i64 a, .int .i64 b, .int .i64 n]] W fun e w' => e = .returned (.bool false) ∧ Below W.heap.size W w') :
    Calls Tryd.prog 22 #[.agg #[.bool k, .int .i64 a, .int .i64 b, .int .i64 n]] w fun e w' => e = .returned (.string (Str [])) ∧ Below w.heap.size w w' := by
  have hP := Box.new w k a b n 52
  have HP := Lib.hid hP
  clear hP
  go_enter Tryd.func22, Tryd.ntmps22
  go_wp2_with (go_at_call 33; refine (cr _).mono ?_; rintro e w1 ⟨rfl, hb⟩; replace HP := Lib.hid (HP.out.next hb); clear hb)
  go_ret
  exact ⟨rfl, HP.out.1⟩

set_option maxHeartbeats 2000000 in
theorem refPC_known (t : Bool) (a b n : Int) (A B C : ByteArray) (w : World) (hb0 : 1 ≤ b) (hb1 : b ≤ 4611686018427387903) (hA : A.size ≤ 21) (hB : B.size ≤ 21) (hC : C.size ≤ 21) (ht : decide (n < 0) = !t)
    (cr : ∀ W, Calls Tryd.prog 33 #[.agg #[.bool true, .int .i64 a, .int .i64 b, .int .i64 n]] W fun e w' => e = .returned (.bool true) ∧ Below W.heap.size W w')
    (ca : ∀ W, Below w.heap.size w W → Calls Tryd.prog 34 #[.int .i64 a] W fun e w' => e = .returned (.string A) ∧ Below W.heap.size W w')
    (cb : ∀ W, Below w.heap.size w W → Calls Tryd.prog 34 #[.int .i64 (b - 1)] W fun e w' => e = .returned (.string B) ∧ Below W.heap.size W w')
    (cn : ∀ W, Below w.heap.size w W → Calls Tryd.prog 34 #[.int .i64 n] W fun e w' => e = .returned (.string C) ∧ Below W.heap.size W w') :
    Calls Tryd.prog 22 #[.agg #[.bool true, .int .i64 a, .int .i64 b, .int .i64 n]] w fun e w' =>
      ∃ X : ByteArray, e = .returned (.string X) ∧ X.data.toList = [98, 121, 116, 101, 115, 32] ++ (A.data.toList ++ [45] ++ B.data.toList) ++ [47] ++ (if t then C.data.toList else [42]) ∧ Below w.heap.size w w' := by
  have HP := Lib.hid (Box.new w true a b n 52)
  have hw : IntKind.i64.wrap (b - 1) = b - 1 := IntWalk.i64_in _ (by omega)
  have n1 : ¬ 9223372036854775807 < 6 + A.size := by omega
  have n2 : ¬ 9223372036854775807 < 6 + A.size + 1 := by omega
  have n3 : ¬ 9223372036854775806 < 6 + A.size := by omega
  have n4 : ¬ 9223372036854775807 < 6 + A.size + 1 + B.size := by omega
  have s4 : 6 + A.size + 1 + B.size + 1 ≤ 9223372036854775807 := by omega
  have s5 : 6 + A.size + 1 + B.size + 1 + C.size ≤ 9223372036854775807 := by omega
  have s6 : 6 + A.size + 1 + B.size + 2 ≤ 9223372036854775807 := by omega
  cases t
  all_goals
    go_enter Tryd.func22, Tryd.ntmps22
    go_wp2_with (go_at_call 33; refine (cr _).mono ?_; rintro e w1 ⟨rfl, hb⟩; replace HP := Lib.hid (HP.out.next hb); clear hb; obtain ⟨p0, p1, p2, p3, p4, p5⟩ := HP.out)
    have hP : Box w true a b n w1.drew := HP.out.drew
    clear HP p0 p1 p2 p3 p4 p5
    go_region_held3 (fun w' => Below w.heap.size w w' ∧ w.heap.size < w'.heap.size ∧ w'.cell? ⟨w.heap.size, 0, none⟩ = some (.bool true) ∧ w'.cell? ⟨w.heap.size, 1, none⟩ = some (.int .i64 a) ∧
        w'.cell? ⟨w.heap.size, 2, none⟩ = some (.int .i64 b) ∧ w'.cell? ⟨w.heap.size, 3, none⟩ = some (.int .i64 n)) (exact hP)
      (first | (go_at_call 34; have hq := hP.1; (first | (with_reducible refine (ca _ hq).mono ?_) | (with_reducible refine (cb _ hq).mono ?_)); clear hq; rintro e w' ⟨rfl, hb⟩; replace hP := Box.next hP hb) | fail)
    obtain ⟨p0, p1, p2, p3, p4, p5⟩ := hP
    go_wp2_with (go_at_call 34; (with_reducible refine (cn _ p0).mono ?_); rintro e w3 ⟨rfl, hb⟩; replace p0 := p0.trans (hb.mono p0.size))
    go_ret
    exact ⟨_, rfl, by simp, p0⟩

theorem refPC_not (t : Bool) (a b n : Int) (C : ByteArray) (w : World) (hC : C.size ≤ 21) (ht : decide (n < 0) = !t)
    (cr : ∀ W, Calls Tryd.prog 33 #[.agg #[.bool false, .int .i64 a, .int .i64 b, .int .i64 n]] W fun e w' => e = .returned (.bool true) ∧ Below W.heap.size W w')
    (cn : ∀ W, Below w.heap.size w W → Calls Tryd.prog 34 #[.int .i64 n] W fun e w' => e = .returned (.string C) ∧ Below W.heap.size W w') :
    Calls Tryd.prog 22 #[.agg #[.bool false, .int .i64 a, .int .i64 b, .int .i64 n]] w fun e w' =>
      ∃ X : ByteArray, e = .returned (.string X) ∧ X.data.toList = [98, 121, 116, 101, 115, 32] ++ [42] ++ [47] ++ (if t then C.data.toList else [42]) ∧ Below w.heap.size w w' := by
  have HP := Lib.hid (Box.new w false a b n 52)
  have s5 : 8 + C.size ≤ 9223372036854775807 := by omega
  cases t
  all_goals
    go_enter Tryd.func22, Tryd.ntmps22
    go_wp2_with (first
      | (go_at_call 33; refine (cr _).mono ?_; rintro e w1 ⟨rfl, hb⟩; replace HP := Lib.hid (HP.out.next hb); clear hb; obtain ⟨p0, p1, p2, p3, p4, p5⟩ := HP.out)
      | (go_at_call 34; (with_reducible refine (cn _ p0).mono ?_); rintro e w3 ⟨rfl, hb⟩; replace p0 := p0.trans (hb.mono p0.size)))
    go_ret
    exact ⟨_, rfl, by simp, p0⟩

theorem refPC_any (k : Bool) (a b n : Int) (w : World) :
    Calls Tryd.prog 22 #[.agg #[.bool k, .int .i64 a, .int .i64 b, .int .i64 n]] w fun e w' => e = .returned (.string (Str (Cr.printL k a b n))) ∧ Below w.heap.size w w' := by
  have cr := fun W => refRightContent_any k a b n W
  by_cases hr : Cr.rightB k a b n = true
  · rw [hr] at cr
    have hn {m : Int} (h : m = -1 ∨ 0 ≤ m) : decide (m < 0) = !(m != -1) := by
      rcases h with rfl | h
      · rfl
      · rw [decide_eq_false (by omega), show (m != -1) = true by simp; omega]; rfl
    cases k
    · obtain ⟨rfl, rfl, h2, h3⟩ := Cr.right_not hr
      refine (refPC_not _ 0 0 n (Str (Lib.itoa n)) w (itoa_size n (by omega) (by omega)) (hn (.inr h2)) cr (fun W hb => refPrint_any n W (by omega) (by omega))).mono ?_
      rintro e w' ⟨X, rfl, hX, hb⟩
      refine ⟨?_, hb⟩
      rw [str_of hX]
      unfold Cr.printL
      rw [hr, str_list]
      rfl
    · obtain ⟨h1, h2, h3, h4⟩ := Cr.right_known hr
      refine (refPC_known _ a b n (Str (Lib.itoa a)) (Str (Lib.itoa (b - 1))) (Str (Lib.itoa n)) w (by omega) (by omega) (itoa_size a (by omega) (by omega)) (itoa_size (b - 1) (by omega) (by omega)) (itoa_size n (by omega) (by omega)) (hn (h4.imp id And.left)) cr
        (fun W hb => refPrint_any a W (by omega) (by omega)) (fun W hb => refPrint_any (b - 1) W (by omega) (by omega)) (fun W hb => refPrint_any n W (by omega) (by omega))).mono ?_
      rintro e w' ⟨X, rfl, hX, hb⟩
      refine ⟨?_, hb⟩
      rw [str_of hX]
      unfold Cr.printL
      rw [hr, str_list, str_list, str_list]
      rfl
  · rw [show Cr.rightB k a b n = false by simpa using hr] at cr
    unfold Cr.printL
    rw [if_neg hr]
    exact refPC_no k a b n w cr
end Go.Proofs.YtlilkcbhlinolaaDoor
