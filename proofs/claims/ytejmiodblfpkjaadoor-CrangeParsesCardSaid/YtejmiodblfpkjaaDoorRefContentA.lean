/-
  Contract of the document's own Content, way by way (ways that end early). Written by tools/gen_refcontent.py.
-/
import Derived.Test.YtejmiodblfpkjaaDoorCrangeParse
import Derived.Test.YtejmiodblfpkjaaDoorRefLower
import Derived.Test.YtejmiodblfpkjaaDoorRefParse
namespace Go.Proofs.YtejmiodblfpkjaaDoor
open Go.ChangeShapes Go.WideShapes Go.ChangeAt Go.RowKit

theorem eq_of_bne {α : Type} [BEq α] {a b : α} {t : Bool} (h : (a != b) = t) : (a == b) = !t := by unfold bne at h; rw [← h, Bool.not_not]
/-- how it stands within the document's own Content: the result's block, c's block behind it -/
def Qt (w : World) (k : Bool) (a b n : Int) (w' : World) : Prop :=
  Below w.heap.size w w' ∧ Four w' w.heap.size (.bool false) (.int .i64 0) (.int .i64 0) (.int .i64 0) ∧ Four w' (w.heap.size + 1) (.bool k) (.int .i64 a) (.int .i64 b) (.int .i64 n)
theorem Four.set1 {w : World} {n : Nat} {a b c d : Value} (h : Four w n a b c d) (x : Value) : Four (w.setCell ⟨n, 3, none⟩ x) n a b c x := by
  obtain ⟨h1, h2, h3, h4, h5, h6, h7, h8, h9⟩ := h
  have ne {i j : Nat} (hij : i ≠ j) : (⟨n, i, none⟩ : Addr) ≠ ⟨n, j, none⟩ := fun e => hij (by injection e)
  refine ⟨by simpa using h1, ?_, ?_, ?_, ?_, by simpa using h6, by simpa using h7, by simpa using h8, by simpa using h9⟩
  · rw [World.cell?_setCell_other _ _ _ _ (ne (by omega))]; exact h2
  · rw [World.cell?_setCell_other _ _ _ _ (ne (by omega))]; exact h3
  · rw [World.cell?_setCell_other _ _ _ _ (ne (by omega))]; exact h4
  · rw [World.cell?_setCell_same' _ _ _ (by rw [h5]; rfl)]
section
variable {w W w' : World} {k : Bool} {a b n : Int}
theorem Qt.new (w : World) (t u : TypeId) : Qt w false 0 0 (-1) ((w.alloc (.cells #[.bool false, .int .i64 0, .int .i64 0, .int .i64 0] t)).alloc (.cells #[.bool false, .int .i64 0, .int .i64 0, .int .i64 (-1)] u)) :=
  ⟨(below_new4 w _).alloc (by simp) _, (Four.new _ _ _ _ _ _).alloc _, Four.second _ _ _ _ _ _ _⟩
theorem Qt.next (h : Qt w k a b n W) (hb : Below W.heap.size W w') : Qt w k a b n w' := ⟨h.1.trans (hb.mono h.1.size), h.2.1.below hb, h.2.2.below hb⟩
theorem Qt.at3 (h : Qt w k a b n W) (x : Bool) (y z : Int) :
    Qt w x y z n (((W.setCell ⟨w.heap.size + 1, 0, none⟩ (.bool x)).setCell ⟨w.heap.size + 1, 1, none⟩ (.int .i64 y)).setCell ⟨w.heap.size + 1, 2, none⟩ (.int .i64 z)) :=
  ⟨((h.1.setCell (p := ⟨_, _, _⟩) (Nat.le_succ _) _).setCell (p := ⟨_, _, _⟩) (Nat.le_succ _) _).setCell (p := ⟨_, _, _⟩) (Nat.le_succ _) _,
    ((h.2.1.far (by omega) _ _).far (by omega) _ _).far (by omega) _ _, h.2.2.set3 _ _ _⟩
theorem Qt.at1 (h : Qt w k a b n W) (x : Int) : Qt w k a b x (W.setCell ⟨w.heap.size + 1, 3, none⟩ (.int .i64 x)) :=
  ⟨h.1.setCell (p := ⟨_, _, _⟩) (Nat.le_succ _) _, h.2.1.far (by omega) _ _, h.2.2.set1 _⟩
theorem Qt.done (h : Qt w k a b n W) (x1 x2 x3 x4 : Value) :
    Below w.heap.size w ((((W.setCell ⟨w.heap.size, 0, none⟩ x1).setCell ⟨w.heap.size, 1, none⟩ x2).setCell ⟨w.heap.size, 2, none⟩ x3).setCell ⟨w.heap.size, 3, none⟩ x4) :=
  (((h.1.setCell (p := ⟨_, _, _⟩) (Nat.le_refl _) _).setCell (p := ⟨_, _, _⟩) (Nat.le_refl _) _).setCell (p := ⟨_, _, _⟩) (Nat.le_refl _) _).setCell (p := ⟨_, _, _⟩) (Nat.le_refl _) _
end

set_option maxHeartbeats 4000000 in
set_option maxRecDepth 100000 in
theorem refContent_unit0 (s U R A T : ByteArray) (ok : Bool) (w : World)
    (c1 : ∀ W, Calls Tryd.prog 18 #[.string s, .int .u8 32] W fun e w' => e = .returned (.tuple #[.string U, .string R, .bool false]) ∧ Below W.heap.size W w')
    (c2 : ∀ W, Calls Tryd.prog 18 #[.string R, .int .u8 47] W fun e w' => e = .returned (.tuple #[.string A, .string T, .bool ok]) ∧ Below W.heap.size W w') :
    Calls Tryd.prog 8 #[.string s] w (ConTo false 0 0 0 3 w) := by
  have HQ := Lib.hid (Qt.new w 26 26)
  go_enter Tryd.func8, Tryd.ntmps8
  go_wp2_with (first
    | (go_at_call 18; (with_reducible refine (c1 _).mono ?_); rintro e w1 ⟨rfl, hb⟩; replace HQ := Lib.hid (HQ.out.next hb); clear hb; obtain ⟨_, ⟨x0, x1, x2, x3, x4, x5, x6, x7, x8⟩, ⟨d0, d1, d2, d3, d4, d5, d6, d7, d8⟩⟩ := HQ.out)
    | (go_at_call 18; (with_reducible refine (c2 _).mono ?_); rintro e w2 ⟨rfl, hb⟩; replace HQ := Lib.hid (HQ.out.next hb); clear hb; obtain ⟨_, ⟨x0, x1, x2, x3, x4, x5, x6, x7, x8⟩, ⟨d0, d1, d2, d3, d4, d5, d6, d7, d8⟩⟩ := HQ.out))
  refine bodyPost_ret (v := .tuple #[.agg #[.bool false, .int .i64 0, .int .i64 0, .int .i64 0], .int .i64 3]) (by simp [results, Tryd.results8, go_sem, x1, x2, x3, x4]) rfl ?_
  exact ⟨rfl, HQ.out.done _ _ _ _⟩

set_option maxHeartbeats 4000000 in
set_option maxRecDepth 100000 in
theorem refContent_unit1 (s U R A T : ByteArray) (w : World)
    (c1 : ∀ W, Calls Tryd.prog 18 #[.string s, .int .u8 32] W fun e w' => e = .returned (.tuple #[.string U, .string R, .bool true]) ∧ Below W.heap.size W w')
    (c2 : ∀ W, Calls Tryd.prog 18 #[.string R, .int .u8 47] W fun e w' => e = .returned (.tuple #[.string A, .string T, .bool false]) ∧ Below W.heap.size W w') :
    Calls Tryd.prog 8 #[.string s] w (ConTo false 0 0 0 3 w) := by
  have HQ := Lib.hid (Qt.new w 26 26)
  go_enter Tryd.func8, Tryd.ntmps8
  go_wp2_with (first
    | (go_at_call 18; (with_reducible refine (c1 _).mono ?_); rintro e w1 ⟨rfl, hb⟩; replace HQ := Lib.hid (HQ.out.next hb); clear hb; obtain ⟨_, ⟨x0, x1, x2, x3, x4, x5, x6, x7, x8⟩, ⟨d0, d1, d2, d3, d4, d5, d6, d7, d8⟩⟩ := HQ.out)
    | (go_at_call 18; (with_reducible refine (c2 _).mono ?_); rintro e w2 ⟨rfl, hb⟩; replace HQ := Lib.hid (HQ.out.next hb); clear hb; obtain ⟨_, ⟨x0, x1, x2, x3, x4, x5, x6, x7, x8⟩, ⟨d0, d1, d2, d3, d4, d5, d6, d7, d8⟩⟩ := HQ.out))
  refine bodyPost_ret (v := .tuple #[.agg #[.bool false, .int .i64 0, .int .i64 0, .int .i64 0], .int .i64 3]) (by simp [results, Tryd.results8, go_sem, x1, x2, x3, x4]) rfl ?_
  exact ⟨rfl, HQ.out.done _ _ _ _⟩

set_option maxHeartbeats 4000000 in
set_option maxRecDepth 100000 in
theorem refContent_unit2 (s U R A T L : ByteArray) (w : World)
    (c1 : ∀ W, Calls Tryd.prog 18 #[.string s, .int .u8 32] W fun e w' => e = .returned (.tuple #[.string U, .string R, .bool true]) ∧ Below W.heap.size W w')
    (c2 : ∀ W, Calls Tryd.prog 18 #[.string R, .int .u8 47] W fun e w' => e = .returned (.tuple #[.string A, .string T, .bool true]) ∧ Below W.heap.size W w')
    (cl : ∀ W, Calls Tryd.prog 19 #[.string U] W fun e w' => e = .returned (.string L) ∧ Below W.heap.size W w')
    (hl : (L.toList != [98, 121, 116, 101, 115]) = true) :
    Calls Tryd.prog 8 #[.string s] w (ConTo false 0 0 0 3 w) := by
  have hlE := eq_of_bne hl
  have HQ := Lib.hid (Qt.new w 26 26)
  go_enter Tryd.func8, Tryd.ntmps8
  go_wp2_with (first
    | (go_at_call 18; (with_reducible refine (c1 _).mono ?_); rintro e w1 ⟨rfl, hb⟩; replace HQ := Lib.hid (HQ.out.next hb); clear hb; obtain ⟨_, ⟨x0, x1, x2, x3, x4, x5, x6, x7, x8⟩, ⟨d0, d1, d2, d3, d4, d5, d6, d7, d8⟩⟩ := HQ.out)
    | (go_at_call 18; (with_reducible refine (c2 _).mono ?_); rintro e w2 ⟨rfl, hb⟩; replace HQ := Lib.hid (HQ.out.next hb); clear hb; obtain ⟨_, ⟨x0, x1, x2, x3, x4, x5, x6, x7, x8⟩, ⟨d0, d1, d2, d3, d4, d5, d6, d7, d8⟩⟩ := HQ.out)
    | (go_at_call 19; refine (cl _).mono ?_; rintro e w3 ⟨rfl, hb⟩; replace HQ := Lib.hid (HQ.out.next hb); clear hb; obtain ⟨_, ⟨x0, x1, x2, x3, x4, x5, x6, x7, x8⟩, ⟨d0, d1, d2, d3, d4, d5, d6, d7, d8⟩⟩ := HQ.out))
  refine bodyPost_ret (v := .tuple #[.agg #[.bool false, .int .i64 0, .int .i64 0, .int .i64 0], .int .i64 3]) (by simp [results, Tryd.results8, go_sem, x1, x2, x3, x4]) rfl ?_
  exact ⟨rfl, HQ.out.done _ _ _ _⟩

set_option maxHeartbeats 4000000 in
set_option maxRecDepth 100000 in
theorem refContent_both (s U R A T L X Y : ByteArray) (n1 e1 n2 e2 : Int) (w : World)
    (c1 : ∀ W, Calls Tryd.prog 18 #[.string s, .int .u8 32] W fun e w' => e = .returned (.tuple #[.string U, .string R, .bool true]) ∧ Below W.heap.size W w')
    (c2 : ∀ W, Calls Tryd.prog 18 #[.string R, .int .u8 47] W fun e w' => e = .returned (.tuple #[.string A, .string T, .bool true]) ∧ Below W.heap.size W w')
    (cl : ∀ W, Calls Tryd.prog 19 #[.string U] W fun e w' => e = .returned (.string L) ∧ Below W.heap.size W w')
    (hl : (L.toList != [98, 121, 116, 101, 115]) = false)
    (ha : (A.toList != [42]) = true)
    (c3 : ∀ W, Calls Tryd.prog 18 #[.string A, .int .u8 45] W fun e w' => e = .returned (.tuple #[.string X, .string Y, .bool false]) ∧ Below W.heap.size W w')
    (p1 : ∀ W, Calls Tryd.prog 20 #[.string X] W fun x w' => x = .returned (.tuple #[.int .i64 n1, .int .i64 e1]) ∧ W = w')
    (p2 : ∀ W, Calls Tryd.prog 20 #[.string Y] W fun x w' => x = .returned (.tuple #[.int .i64 n2, .int .i64 e2]) ∧ W = w') :
    Calls Tryd.prog 8 #[.string s] w (ConTo false 0 0 0 3 w) := by
  have hlE := eq_of_bne hl
  have haE := eq_of_bne ha
  have HQ := Lib.hid (Qt.new w 26 26)
  go_enter Tryd.func8, Tryd.ntmps8
  go_wp2_with (first
    | (go_at_call 18; (with_reducible refine (c1 _).mono ?_); rintro e w1 ⟨rfl, hb⟩; replace HQ := Lib.hid (HQ.out.next hb); clear hb; obtain ⟨_, ⟨x0, x1, x2, x3, x4, x5, x6, x7, x8⟩, ⟨d0, d1, d2, d3, d4, d5, d6, d7, d8⟩⟩ := HQ.out)
    | (go_at_call 18; (with_reducible refine (c2 _).mono ?_); rintro e w2 ⟨rfl, hb⟩; replace HQ := Lib.hid (HQ.out.next hb); clear hb; obtain ⟨_, ⟨x0, x1, x2, x3, x4, x5, x6, x7, x8⟩, ⟨d0, d1, d2, d3, d4, d5, d6, d7, d8⟩⟩ := HQ.out)
    | (go_at_call 19; refine (cl _).mono ?_; rintro e w3 ⟨rfl, hb⟩; replace HQ := Lib.hid (HQ.out.next hb); clear hb; obtain ⟨_, ⟨x0, x1, x2, x3, x4, x5, x6, x7, x8⟩, ⟨d0, d1, d2, d3, d4, d5, d6, d7, d8⟩⟩ := HQ.out)
    | (go_at_call 18; (with_reducible refine (c3 _).mono ?_); rintro e w4 ⟨rfl, hb⟩; replace HQ := Lib.hid (HQ.out.next hb); clear hb; obtain ⟨_, ⟨x0, x1, x2, x3, x4, x5, x6, x7, x8⟩, ⟨d0, d1, d2, d3, d4, d5, d6, d7, d8⟩⟩ := HQ.out)
    | (go_at_call 20; (with_reducible refine (p1 _).mono ?_); rintro e w5 ⟨rfl, rfl⟩)
    | (go_at_call 20; (with_reducible refine (p2 _).mono ?_); rintro e w6 ⟨rfl, rfl⟩))
  refine bodyPost_ret (v := .tuple #[.agg #[.bool false, .int .i64 0, .int .i64 0, .int .i64 0], .int .i64 3]) (by simp [results, Tryd.results8, go_sem, x1, x2, x3, x4]) rfl ?_
  exact ⟨rfl, HQ.out.done _ _ _ _⟩

set_option maxHeartbeats 4000000 in
set_option maxRecDepth 100000 in
theorem refContent_one (s U R A T L X Y : ByteArray) (n1 e1 n2 e2 : Int) (w : World)
    (c1 : ∀ W, Calls Tryd.prog 18 #[.string s, .int .u8 32] W fun e w' => e = .returned (.tuple #[.string U, .string R, .bool true]) ∧ Below W.heap.size W w')
    (c2 : ∀ W, Calls Tryd.prog 18 #[.string R, .int .u8 47] W fun e w' => e = .returned (.tuple #[.string A, .string T, .bool true]) ∧ Below W.heap.size W w')
    (cl : ∀ W, Calls Tryd.prog 19 #[.string U] W fun e w' => e = .returned (.string L) ∧ Below W.heap.size W w')
    (hl : (L.toList != [98, 121, 116, 101, 115]) = false)
    (ha : (A.toList != [42]) = true)
    (c3 : ∀ W, Calls Tryd.prog 18 #[.string A, .int .u8 45] W fun e w' => e = .returned (.tuple #[.string X, .string Y, .bool true]) ∧ Below W.heap.size W w')
    (p1 : ∀ W, Calls Tryd.prog 20 #[.string X] W fun x w' => x = .returned (.tuple #[.int .i64 n1, .int .i64 e1]) ∧ W = w')
    (p2 : ∀ W, Calls Tryd.prog 20 #[.string Y] W fun x w' => x = .returned (.tuple #[.int .i64 n2, .int .i64 e2]) ∧ W = w')
    (h1 : (e1 == 3) = true) :
    Calls Tryd.prog 8 #[.string s] w (ConTo false 0 0 0 3 w) := by
  have hlE := eq_of_bne hl
  have haE := eq_of_bne ha
  have HQ := Lib.hid (Qt.new w 26 26)
  go_enter Tryd.func8, Tryd.ntmps8
  go_wp2_with (first
    | (go_at_call 18; (with_reducible refine (c1 _).mono ?_); rintro e w1 ⟨rfl, hb⟩; replace HQ := Lib.hid (HQ.out.next hb); clear hb; obtain ⟨_, ⟨x0, x1, x2, x3, x4, x5, x6, x7, x8⟩, ⟨d0, d1, d2, d3, d4, d5, d6, d7, d8⟩⟩ := HQ.out)
    | (go_at_call 18; (with_reducible refine (c2 _).mono ?_); rintro e w2 ⟨rfl, hb⟩; replace HQ := Lib.hid (HQ.out.next hb); clear hb; obtain ⟨_, ⟨x0, x1, x2, x3, x4, x5, x6, x7, x8⟩, ⟨d0, d1, d2, d3, d4, d5, d6, d7, d8⟩⟩ := HQ.out)
    | (go_at_call 19; refine (cl _).mono ?_; rintro e w3 ⟨rfl, hb⟩; replace HQ := Lib.hid (HQ.out.next hb); clear hb; obtain ⟨_, ⟨x0, x1, x2, x3, x4, x5, x6, x7, x8⟩, ⟨d0, d1, d2, d3, d4, d5, d6, d7, d8⟩⟩ := HQ.out)
    | (go_at_call 18; (with_reducible refine (c3 _).mono ?_); rintro e w4 ⟨rfl, hb⟩; replace HQ := Lib.hid (HQ.out.next hb); clear hb; obtain ⟨_, ⟨x0, x1, x2, x3, x4, x5, x6, x7, x8⟩, ⟨d0, d1, d2, d3, d4, d5, d6, d7, d8⟩⟩ := HQ.out)
    | (go_at_call 20; (with_reducible refine (p1 _).mono ?_); rintro e w5 ⟨rfl, rfl⟩)
    | (go_at_call 20; (with_reducible refine (p2 _).mono ?_); rintro e w6 ⟨rfl, rfl⟩))
  refine bodyPost_ret (v := .tuple #[.agg #[.bool false, .int .i64 0, .int .i64 0, .int .i64 0], .int .i64 3]) (by simp [results, Tryd.results8, go_sem, x1, x2, x3, x4]) rfl ?_
  exact ⟨rfl, HQ.out.done _ _ _ _⟩

set_option maxHeartbeats 4000000 in
set_option maxRecDepth 100000 in
theorem refContent_two (s U R A T L X Y : ByteArray) (n1 e1 n2 e2 : Int) (w : World)
    (c1 : ∀ W, Calls Tryd.prog 18 #[.string s, .int .u8 32] W fun e w' => e = .returned (.tuple #[.string U, .string R, .bool true]) ∧ Below W.heap.size W w')
    (c2 : ∀ W, Calls Tryd.prog 18 #[.string R, .int .u8 47] W fun e w' => e = .returned (.tuple #[.string A, .string T, .bool true]) ∧ Below W.heap.size W w')
    (cl : ∀ W, Calls Tryd.prog 19 #[.string U] W fun e w' => e = .returned (.string L) ∧ Below W.heap.size W w')
    (hl : (L.toList != [98, 121, 116, 101, 115]) = false)
    (ha : (A.toList != [42]) = true)
    (c3 : ∀ W, Calls Tryd.prog 18 #[.string A, .int .u8 45] W fun e w' => e = .returned (.tuple #[.string X, .string Y, .bool true]) ∧ Below W.heap.size W w')
    (p1 : ∀ W, Calls Tryd.prog 20 #[.string X] W fun x w' => x = .returned (.tuple #[.int .i64 n1, .int .i64 e1]) ∧ W = w')
    (p2 : ∀ W, Calls Tryd.prog 20 #[.string Y] W fun x w' => x = .returned (.tuple #[.int .i64 n2, .int .i64 e2]) ∧ W = w')
    (h1 : (e1 == 3) = false)
    (h2 : (e2 == 3) = true) :
    Calls Tryd.prog 8 #[.string s] w (ConTo false 0 0 0 3 w) := by
  have hlE := eq_of_bne hl
  have haE := eq_of_bne ha
  have HQ := Lib.hid (Qt.new w 26 26)
  go_enter Tryd.func8, Tryd.ntmps8
  go_wp2_with (first
    | (go_at_call 18; (with_reducible refine (c1 _).mono ?_); rintro e w1 ⟨rfl, hb⟩; replace HQ := Lib.hid (HQ.out.next hb); clear hb; obtain ⟨_, ⟨x0, x1, x2, x3, x4, x5, x6, x7, x8⟩, ⟨d0, d1, d2, d3, d4, d5, d6, d7, d8⟩⟩ := HQ.out)
    | (go_at_call 18; (with_reducible refine (c2 _).mono ?_); rintro e w2 ⟨rfl, hb⟩; replace HQ := Lib.hid (HQ.out.next hb); clear hb; obtain ⟨_, ⟨x0, x1, x2, x3, x4, x5, x6, x7, x8⟩, ⟨d0, d1, d2, d3, d4, d5, d6, d7, d8⟩⟩ := HQ.out)
    | (go_at_call 19; refine (cl _).mono ?_; rintro e w3 ⟨rfl, hb⟩; replace HQ := Lib.hid (HQ.out.next hb); clear hb; obtain ⟨_, ⟨x0, x1, x2, x3, x4, x5, x6, x7, x8⟩, ⟨d0, d1, d2, d3, d4, d5, d6, d7, d8⟩⟩ := HQ.out)
    | (go_at_call 18; (with_reducible refine (c3 _).mono ?_); rintro e w4 ⟨rfl, hb⟩; replace HQ := Lib.hid (HQ.out.next hb); clear hb; obtain ⟨_, ⟨x0, x1, x2, x3, x4, x5, x6, x7, x8⟩, ⟨d0, d1, d2, d3, d4, d5, d6, d7, d8⟩⟩ := HQ.out)
    | (go_at_call 20; (with_reducible refine (p1 _).mono ?_); rintro e w5 ⟨rfl, rfl⟩)
    | (go_at_call 20; (with_reducible refine (p2 _).mono ?_); rintro e w6 ⟨rfl, rfl⟩))
  refine bodyPost_ret (v := .tuple #[.agg #[.bool false, .int .i64 0, .int .i64 0, .int .i64 0], .int .i64 3]) (by simp [results, Tryd.results8, go_sem, x1, x2, x3, x4]) rfl ?_
  exact ⟨rfl, HQ.out.done _ _ _ _⟩
end Go.Proofs.YtejmiodblfpkjaaDoor
