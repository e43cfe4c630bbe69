/-
  Contract of crange.Parse.
-/
import Derived.Test.YtlilkcbhlinolaaDoorCrangeContent
import Derived.Test.YtlilkcbhlinolaaDoorCrangePrint
import Derived.Test.YtlilkcbhlinolaaDoorNums
namespace Go.Proofs.YtlilkcbhlinolaaDoor
open Go.ChangeShapes Go.WideShapes Go.ChangeAt Go.RowKit

/-- how it stands within Parse: nothing that was there turned, the result's block as it was laid -/
def Pt (w w' : World) : Prop := Below w.heap.size w w' ∧ Four w' w.heap.size (.bool false) (.int .i64 0) (.int .i64 0) (.int .i64 0)
section
variable {w W w' : World}
theorem Pt.new (w : World) (t : TypeId) : Pt w (w.alloc (.cells #[.bool false, .int .i64 0, .int .i64 0, .int .i64 0] t)) := ⟨below_new4 _ _, Four.new _ _ _ _ _ _⟩
theorem Pt.next (h : Pt w W) (hb : Below W.heap.size W w') : Pt w w' := ⟨h.1.trans (hb.mono h.1.size), h.2.below hb⟩
theorem Pt.alloc (h : Pt w W) (o : Obj) : Pt w (W.alloc o) := h.next (below_new4 _ _)
/-- behind a call that wrote a block that was laid behind it -/
theorem Pt.part (h : Pt w W) {o : Obj} (hb : Below W.heap.size (W.alloc o) w') : Pt w w' := h.next ((below_new4 W o).trans hb)
theorem Four.put4 {n : Nat} {a b c d : Value} (h : Four W n a b c d) (x y z u : Value) :
    Four ((((W.setCell ⟨n, 0, none⟩ x).setCell ⟨n, 1, none⟩ y).setCell ⟨n, 2, none⟩ z).setCell ⟨n, 3, none⟩ u) n x y z u := by
  obtain ⟨h1, h2, h3, h4, h5, h6, h7, h8, h9⟩ := h.set3 x y z
  have ne {i j : Nat} (hij : i ≠ j) : (⟨n, i, none⟩ : Addr) ≠ ⟨n, j, none⟩ := fun e => hij (by injection e)
  refine ⟨by simpa using h1, ?_, ?_, ?_, ?_, by simpa using h6, by simpa using h7, by simpa using h8, by simpa using h9⟩
  · rw [World.cell?_setCell_other _ _ _ _ (ne (by omega))]; exact h2
  · rw [World.cell?_setCell_other _ _ _ _ (ne (by omega))]; exact h3
  · rw [World.cell?_setCell_other _ _ _ _ (ne (by omega))]; exact h4
  · rw [World.cell?_setCell_same' _ _ _ (by rw [h5]; rfl)]
theorem Pt.done (h : Pt w W) (x1 x2 x3 x4 : Value) :
    Below w.heap.size w ((((W.setCell ⟨w.heap.size, 0, none⟩ x1).setCell ⟨w.heap.size, 1, none⟩ x2).setCell ⟨w.heap.size, 2, none⟩ x3).setCell ⟨w.heap.size, 3, none⟩ x4) :=
  (((h.1.setCell (p := ⟨_, _, _⟩) (Nat.le_refl _) _).setCell (p := ⟨_, _, _⟩) (Nat.le_refl _) _).setCell (p := ⟨_, _, _⟩) (Nat.le_refl _) _).setCell (p := ⟨_, _, _⟩) (Nat.le_refl _) _
end
/-- a content and an error, in new memory -/
def ConTo (k : Bool) (a b n e : Int) (w : World) (x : Ending) (w' : World) : Prop :=
  x = .returned (.tuple #[.agg #[.bool k, .int .i64 a, .int .i64 b, .int .i64 n], .int .i64 e]) ∧ Below w.heap.size w w'

section
variable (s M R A T : ByteArray) (i1 i2 : Bool) (k : Bool) (a b n : Int) (w : World)
    (c1 : ∀ W, Calls Tryd.prog 57 #[.string s, .int .u8 32] W fun e w' => e = .returned (.tuple #[.string M, .string R, .bool i1]) ∧ Below W.heap.size W w')
    (c2 : ∀ W, Calls Tryd.prog 57 #[.string R, .int .u8 47] W fun e w' => e = .returned (.tuple #[.string A, .string T, .bool i2]) ∧ Below W.heap.size W w')
include c1 c2

omit c2 in
set_option maxHeartbeats 2000000 in
theorem crParse_unit
    (cf : ∀ W, Calls Tryd.prog 58 #[.string M, .string ⟨#[98, 121, 116, 101, 115]⟩] W fun e w' => e = .returned (.bool false) ∧ Below W.heap.size W w') :
    Calls Tryd.prog 47 #[.string s] w (ConTo false 0 0 0 3 w) := by
  have hmf : ∀ (fn : Fn) (first cap : Array Value) (w : World), (Instr.makeFunc fn first cap).run Tryd.prog w = .ok (.func fn first cap) w := fun _ _ _ _ => rfl
  have HP := Lib.hid (Pt.new w 52)
  go_enter Tryd.func47, Tryd.ntmps47
  go_wp2_with (first
    | (go_at_call 57; (with_reducible refine (c1 _).mono ?_); rintro e w1 ⟨rfl, hb⟩; replace HP := Lib.hid (HP.out.next hb); clear hb)
    | (go_at_call 57; (with_reducible refine (c2 _).mono ?_); rintro e w2 ⟨rfl, hb⟩; replace HP := Lib.hid (HP.out.next hb); clear hb)
    | (go_at_call 58; refine (cf _).mono ?_; rintro e w3 ⟨rfl, hb⟩; replace HP := Lib.hid (HP.out.next hb); clear hb; obtain ⟨_, ⟨x0, x1, x2, x3, x4, x5, x6, x7, x8⟩⟩ := HP.out))
  refine bodyPost_ret (v := .tuple #[.agg #[.bool false, .int .i64 0, .int .i64 0, .int .i64 0], .int .i64 3]) (by simp [results, Tryd.results47, go_sem, x1, x2, x3, x4]) rfl ?_
  exact ⟨rfl, HP.out.done _ _ _ _⟩
set_option maxHeartbeats 2000000 in
theorem crParse_none (O : Bool)
    (cf : ∀ W, Calls Tryd.prog 58 #[.string M, .string ⟨#[98, 121, 116, 101, 115]⟩] W fun e w' => e = .returned (.bool true) ∧ Below W.heap.size W w')
    (ck : ∀ W g, Rd W g false false → Calls Tryd.prog 59 #[.string A, .string T, .func (.func 60) #[.pointer (some ⟨g, 0, none⟩)] #[]] W fun e w' => e = .returned (.agg #[.bool k, .int .i64 a, .int .i64 b, .int .i64 n]) ∧ Rd w' g true O ∧ Below g W w') :
    Calls Tryd.prog 47 #[.string s] w (ConTo false 0 0 0 3 w) := by
  have hmf : ∀ (fn : Fn) (first cap : Array Value) (w : World), (Instr.makeFunc fn first cap).run Tryd.prog w = .ok (.func fn first cap) w := fun _ _ _ _ => rfl
  have HP := Lib.hid (Pt.new w 52)
  go_enter Tryd.func47, Tryd.ntmps47
  go_wp2_with (first
    | (go_at_call 57; (with_reducible refine (c1 _).mono ?_); rintro e w1 ⟨rfl, hb⟩; replace HP := Lib.hid (HP.out.next hb); clear hb)
    | (go_at_call 57; (with_reducible refine (c2 _).mono ?_); rintro e w2 ⟨rfl, hb⟩; replace HP := Lib.hid (HP.out.next hb); clear hb)
    | (go_at_call 58; refine (cf _).mono ?_; rintro e w3 ⟨rfl, hb⟩; replace HP := Lib.hid (HP.out.next hb); clear hb; obtain ⟨_, ⟨x0, x1, x2, x3, x4, x5, x6, x7, x8⟩⟩ := HP.out)
    | (go_at_call 59; refine (ck _ _ (Rd.new _ _ _ _)).mono ?_; rintro e w4 ⟨rfl, hr, hb⟩; replace HP := Lib.hid (HP.out.part hb); clear hb; obtain ⟨y0, y1, y2, y3, y4⟩ := hr; obtain ⟨_, ⟨x0, x1, x2, x3, x4, x5, x6, x7, x8⟩⟩ := HP.out))
  have hq := (HP.out.2.put4 (.bool false) (.int .i64 0) (.int .i64 0) (.int .i64 0)).alloc (.cells #[.bool k, .int .i64 a, .int .i64 b, .int .i64 n] 52)
  obtain ⟨_, q1, q2, q3, q4, _⟩ := hq
  refine bodyPost_ret (v := .tuple #[.agg #[.bool false, .int .i64 0, .int .i64 0, .int .i64 0], .int .i64 3]) (by simp [results, Tryd.results47, go_sem, q1, q2, q3, q4]) rfl ?_
  have hd := HP.out.done (.bool false) (.int .i64 0) (.int .i64 0) (.int .i64 0)
  exact ⟨rfl, hd.alloc hd.size _⟩
set_option maxHeartbeats 2000000 in
theorem crParse_over
    (cf : ∀ W, Calls Tryd.prog 58 #[.string M, .string ⟨#[98, 121, 116, 101, 115]⟩] W fun e w' => e = .returned (.bool true) ∧ Below W.heap.size W w')
    (ck : ∀ W g, Rd W g false false → Calls Tryd.prog 59 #[.string A, .string T, .func (.func 60) #[.pointer (some ⟨g, 0, none⟩)] #[]] W fun e w' => e = .returned (.agg #[.bool k, .int .i64 a, .int .i64 b, .int .i64 n]) ∧ Rd w' g false true ∧ Below g W w') :
    Calls Tryd.prog 47 #[.string s] w (ConTo false 0 0 0 9 w) := by
  have hmf : ∀ (fn : Fn) (first cap : Array Value) (w : World), (Instr.makeFunc fn first cap).run Tryd.prog w = .ok (.func fn first cap) w := fun _ _ _ _ => rfl
  have HP := Lib.hid (Pt.new w 52)
  go_enter Tryd.func47, Tryd.ntmps47
  go_wp2_with (first
    | (go_at_call 57; (with_reducible refine (c1 _).mono ?_); rintro e w1 ⟨rfl, hb⟩; replace HP := Lib.hid (HP.out.next hb); clear hb)
    | (go_at_call 57; (with_reducible refine (c2 _).mono ?_); rintro e w2 ⟨rfl, hb⟩; replace HP := Lib.hid (HP.out.next hb); clear hb)
    | (go_at_call 58; refine (cf _).mono ?_; rintro e w3 ⟨rfl, hb⟩; replace HP := Lib.hid (HP.out.next hb); clear hb; obtain ⟨_, ⟨x0, x1, x2, x3, x4, x5, x6, x7, x8⟩⟩ := HP.out)
    | (go_at_call 59; refine (ck _ _ (Rd.new _ _ _ _)).mono ?_; rintro e w4 ⟨rfl, hr, hb⟩; replace HP := Lib.hid (HP.out.part hb); clear hb; obtain ⟨y0, y1, y2, y3, y4⟩ := hr; obtain ⟨_, ⟨x0, x1, x2, x3, x4, x5, x6, x7, x8⟩⟩ := HP.out))
  have hq := (HP.out.2.put4 (.bool false) (.int .i64 0) (.int .i64 0) (.int .i64 0)).alloc (.cells #[.bool k, .int .i64 a, .int .i64 b, .int .i64 n] 52)
  obtain ⟨_, q1, q2, q3, q4, _⟩ := hq
  refine bodyPost_ret (v := .tuple #[.agg #[.bool false, .int .i64 0, .int .i64 0, .int .i64 0], .int .i64 9]) (by simp [results, Tryd.results47, go_sem, q1, q2, q3, q4]) rfl ?_
  have hd := HP.out.done (.bool false) (.int .i64 0) (.int .i64 0) (.int .i64 0)
  exact ⟨rfl, hd.alloc hd.size _⟩
set_option maxHeartbeats 2000000 in
theorem crParse_wrong
    (cf : ∀ W, Calls Tryd.prog 58 #[.string M, .string ⟨#[98, 121, 116, 101, 115]⟩] W fun e w' => e = .returned (.bool true) ∧ Below W.heap.size W w')
    (ck : ∀ W g, Rd W g false false → Calls Tryd.prog 59 #[.string A, .string T, .func (.func 60) #[.pointer (some ⟨g, 0, none⟩)] #[]] W fun e w' => e = .returned (.agg #[.bool k, .int .i64 a, .int .i64 b, .int .i64 n]) ∧ Rd w' g false false ∧ Below g W w')
    (cr : ∀ W, Calls Tryd.prog 52 #[.agg #[.bool k, .int .i64 a, .int .i64 b, .int .i64 n]] W fun e w' => e = .returned (.bool false) ∧ Below W.heap.size W w') :
    Calls Tryd.prog 47 #[.string s] w (ConTo false 0 0 0 3 w) := by
  have hmf : ∀ (fn : Fn) (first cap : Array Value) (w : World), (Instr.makeFunc fn first cap).run Tryd.prog w = .ok (.func fn first cap) w := fun _ _ _ _ => rfl
  have HP := Lib.hid (Pt.new w 52)
  go_enter Tryd.func47, Tryd.ntmps47
  go_wp2_with (first
    | (go_at_call 57; (with_reducible refine (c1 _).mono ?_); rintro e w1 ⟨rfl, hb⟩; replace HP := Lib.hid (HP.out.next hb); clear hb)
    | (go_at_call 57; (with_reducible refine (c2 _).mono ?_); rintro e w2 ⟨rfl, hb⟩; replace HP := Lib.hid (HP.out.next hb); clear hb)
    | (go_at_call 58; refine (cf _).mono ?_; rintro e w3 ⟨rfl, hb⟩; replace HP := Lib.hid (HP.out.next hb); clear hb; obtain ⟨_, ⟨x0, x1, x2, x3, x4, x5, x6, x7, x8⟩⟩ := HP.out)
    | (go_at_call 59; refine (ck _ _ (Rd.new _ _ _ _)).mono ?_; rintro e w4 ⟨rfl, hr, hb⟩; replace HP := Lib.hid (HP.out.part hb); clear hb; obtain ⟨y0, y1, y2, y3, y4⟩ := hr; obtain ⟨_, ⟨x0, x1, x2, x3, x4, x5, x6, x7, x8⟩⟩ := HP.out)
    | (go_at_call 52; refine (cr _).mono ?_; rintro e w5 ⟨rfl, hb⟩; obtain ⟨z0, z1, z2, z3, z4, z5, z6, z7, z8⟩ := (Four.new _ _ _ _ _ _).below hb; replace HP := Lib.hid ((HP.out.alloc _).next hb); clear hb; obtain ⟨_, ⟨x0, x1, x2, x3, x4, x5, x6, x7, x8⟩⟩ := HP.out))
  refine bodyPost_ret (v := .tuple #[.agg #[.bool false, .int .i64 0, .int .i64 0, .int .i64 0], .int .i64 3]) (by simp [results, Tryd.results47, go_sem, x1, x2, x3, x4]) rfl ?_
  exact ⟨rfl, HP.out.done _ _ _ _⟩
set_option maxHeartbeats 2000000 in
theorem crParse_right
    (cf : ∀ W, Calls Tryd.prog 58 #[.string M, .string ⟨#[98, 121, 116, 101, 115]⟩] W fun e w' => e = .returned (.bool true) ∧ Below W.heap.size W w')
    (ck : ∀ W g, Rd W g false false → Calls Tryd.prog 59 #[.string A, .string T, .func (.func 60) #[.pointer (some ⟨g, 0, none⟩)] #[]] W fun e w' => e = .returned (.agg #[.bool k, .int .i64 a, .int .i64 b, .int .i64 n]) ∧ Rd w' g false false ∧ Below g W w')
    (cr : ∀ W, Calls Tryd.prog 52 #[.agg #[.bool k, .int .i64 a, .int .i64 b, .int .i64 n]] W fun e w' => e = .returned (.bool true) ∧ Below W.heap.size W w') :
    Calls Tryd.prog 47 #[.string s] w (ConTo k a b n 0 w) := by
  have hmf : ∀ (fn : Fn) (first cap : Array Value) (w : World), (Instr.makeFunc fn first cap).run Tryd.prog w = .ok (.func fn first cap) w := fun _ _ _ _ => rfl
  have HP := Lib.hid (Pt.new w 52)
  go_enter Tryd.func47, Tryd.ntmps47
  go_wp2_with (first
    | (go_at_call 57; (with_reducible refine (c1 _).mono ?_); rintro e w1 ⟨rfl, hb⟩; replace HP := Lib.hid (HP.out.next hb); clear hb)
    | (go_at_call 57; (with_reducible refine (c2 _).mono ?_); rintro e w2 ⟨rfl, hb⟩; replace HP := Lib.hid (HP.out.next hb); clear hb)
    | (go_at_call 58; refine (cf _).mono ?_; rintro e w3 ⟨rfl, hb⟩; replace HP := Lib.hid (HP.out.next hb); clear hb; obtain ⟨_, ⟨x0, x1, x2, x3, x4, x5, x6, x7, x8⟩⟩ := HP.out)
    | (go_at_call 59; refine (ck _ _ (Rd.new _ _ _ _)).mono ?_; rintro e w4 ⟨rfl, hr, hb⟩; replace HP := Lib.hid (HP.out.part hb); clear hb; obtain ⟨y0, y1, y2, y3, y4⟩ := hr; obtain ⟨_, ⟨x0, x1, x2, x3, x4, x5, x6, x7, x8⟩⟩ := HP.out)
    | (go_at_call 52; refine (cr _).mono ?_; rintro e w5 ⟨rfl, hb⟩; obtain ⟨z0, z1, z2, z3, z4, z5, z6, z7, z8⟩ := (Four.new _ _ _ _ _ _).below hb; replace HP := Lib.hid ((HP.out.alloc _).next hb); clear hb; obtain ⟨_, ⟨x0, x1, x2, x3, x4, x5, x6, x7, x8⟩⟩ := HP.out))
  refine bodyPost_ret (v := .tuple #[.agg #[.bool k, .int .i64 a, .int .i64 b, .int .i64 n], .int .i64 0]) (by simp [results, Tryd.results47, go_sem, x1, x2, x3, x4]) rfl ?_
  exact ⟨rfl, HP.out.done _ _ _ _⟩
end
end Go.Proofs.YtlilkcbhlinolaaDoor
