/-
  Contract of the document's own Content, way by way (which bytes there are isn't told). Written by tools/gen_refcontent.py.
-/
import Derived.Test.YtejmiodblfpkjaaDoorRefContentA
namespace Go.Proofs.YtejmiodblfpkjaaDoor
open Go.ChangeShapes Go.WideShapes Go.ChangeAt Go.RowKit

set_option maxHeartbeats 4000000 in
set_option maxRecDepth 100000 in
theorem refContent_star_tw (s U R A T L : ByteArray) (w : World)
    (c1 : ∀ W, Calls Tryd.prog 18 #[.string s, .int .u8 32] W fun e w' => e = .returned (.tuple #[.string U, .string R, .bool true]) ∧ Below W.heap.size W w')
    (c2 : ∀ W, Calls Tryd.prog 18 #[.string R, .int .u8 47] W fun e w' => e = .returned (.tuple #[.string A, .string T, .bool true]) ∧ Below W.heap.size W w')
    (cl : ∀ W, Calls Tryd.prog 19 #[.string U] W fun e w' => e = .returned (.string L) ∧ Below W.heap.size W w')
    (hl : (L.toList != [98, 121, 116, 101, 115]) = false)
    (ha : (A.toList != [42]) = false)
    (ht : (T.toList != [42]) = false)
    (cr : ∀ W, Calls Tryd.prog 11 #[.agg #[.bool false, .int .i64 0, .int .i64 0, .int .i64 (-1)]] W fun e w' => e = .returned (.bool false) ∧ Below W.heap.size W w') :
    Calls Tryd.prog 8 #[.string s] w (ConTo false 0 0 0 3 w) := by
  have hlE := eq_of_bne hl
  have haE := eq_of_bne ha
  have htE := eq_of_bne ht
  have HQ := Lib.hid (Qt.new w 26 26)
  go_enter Tryd.func8, Tryd.ntmps8
  go_wp2_with (first
    | (go_at_call 18; (with_reducible refine (c1 _).mono ?_); rintro e w1 ⟨rfl, hb⟩; replace HQ := Lib.hid (HQ.out.next hb); clear hb; obtain ⟨_, ⟨x0, x1, x2, x3, x4, x5, x6, x7, x8⟩, ⟨d0, d1, d2, d3, d4, d5, d6, d7, d8⟩⟩ := HQ.out)
    | (go_at_call 18; (with_reducible refine (c2 _).mono ?_); rintro e w2 ⟨rfl, hb⟩; replace HQ := Lib.hid (HQ.out.next hb); clear hb; obtain ⟨_, ⟨x0, x1, x2, x3, x4, x5, x6, x7, x8⟩, ⟨d0, d1, d2, d3, d4, d5, d6, d7, d8⟩⟩ := HQ.out)
    | (go_at_call 19; refine (cl _).mono ?_; rintro e w3 ⟨rfl, hb⟩; replace HQ := Lib.hid (HQ.out.next hb); clear hb; obtain ⟨_, ⟨x0, x1, x2, x3, x4, x5, x6, x7, x8⟩, ⟨d0, d1, d2, d3, d4, d5, d6, d7, d8⟩⟩ := HQ.out)
    | (go_at_call 11; refine (cr _).mono ?_; rintro e w8 ⟨rfl, hb⟩; replace HQ := Lib.hid (HQ.out.next hb); clear hb; obtain ⟨_, ⟨x0, x1, x2, x3, x4, x5, x6, x7, x8⟩, ⟨d0, d1, d2, d3, d4, d5, d6, d7, d8⟩⟩ := HQ.out))
  refine bodyPost_ret (v := .tuple #[.agg #[.bool false, .int .i64 0, .int .i64 0, .int .i64 0], .int .i64 3]) (by simp [results, Tryd.results8, go_sem, x1, x2, x3, x4]) rfl ?_
  exact ⟨rfl, HQ.out.done _ _ _ _⟩

set_option maxHeartbeats 4000000 in
set_option maxRecDepth 100000 in
theorem refContent_star_tr (s U R A T L : ByteArray) (w : World)
    (c1 : ∀ W, Calls Tryd.prog 18 #[.string s, .int .u8 32] W fun e w' => e = .returned (.tuple #[.string U, .string R, .bool true]) ∧ Below W.heap.size W w')
    (c2 : ∀ W, Calls Tryd.prog 18 #[.string R, .int .u8 47] W fun e w' => e = .returned (.tuple #[.string A, .string T, .bool true]) ∧ Below W.heap.size W w')
    (cl : ∀ W, Calls Tryd.prog 19 #[.string U] W fun e w' => e = .returned (.string L) ∧ Below W.heap.size W w')
    (hl : (L.toList != [98, 121, 116, 101, 115]) = false)
    (ha : (A.toList != [42]) = false)
    (ht : (T.toList != [42]) = false)
    (cr : ∀ W, Calls Tryd.prog 11 #[.agg #[.bool false, .int .i64 0, .int .i64 0, .int .i64 (-1)]] W fun e w' => e = .returned (.bool true) ∧ Below W.heap.size W w') :
    Calls Tryd.prog 8 #[.string s] w (ConTo false 0 0 (-1) 0 w) := by
  have hlE := eq_of_bne hl
  have haE := eq_of_bne ha
  have htE := eq_of_bne ht
  have HQ := Lib.hid (Qt.new w 26 26)
  go_enter Tryd.func8, Tryd.ntmps8
  go_wp2_with (first
    | (go_at_call 18; (with_reducible refine (c1 _).mono ?_); rintro e w1 ⟨rfl, hb⟩; replace HQ := Lib.hid (HQ.out.next hb); clear hb; obtain ⟨_, ⟨x0, x1, x2, x3, x4, x5, x6, x7, x8⟩, ⟨d0, d1, d2, d3, d4, d5, d6, d7, d8⟩⟩ := HQ.out)
    | (go_at_call 18; (with_reducible refine (c2 _).mono ?_); rintro e w2 ⟨rfl, hb⟩; replace HQ := Lib.hid (HQ.out.next hb); clear hb; obtain ⟨_, ⟨x0, x1, x2, x3, x4, x5, x6, x7, x8⟩, ⟨d0, d1, d2, d3, d4, d5, d6, d7, d8⟩⟩ := HQ.out)
    | (go_at_call 19; refine (cl _).mono ?_; rintro e w3 ⟨rfl, hb⟩; replace HQ := Lib.hid (HQ.out.next hb); clear hb; obtain ⟨_, ⟨x0, x1, x2, x3, x4, x5, x6, x7, x8⟩, ⟨d0, d1, d2, d3, d4, d5, d6, d7, d8⟩⟩ := HQ.out)
    | (go_at_call 11; refine (cr _).mono ?_; rintro e w8 ⟨rfl, hb⟩; replace HQ := Lib.hid (HQ.out.next hb); clear hb; obtain ⟨_, ⟨x0, x1, x2, x3, x4, x5, x6, x7, x8⟩, ⟨d0, d1, d2, d3, d4, d5, d6, d7, d8⟩⟩ := HQ.out))
  refine bodyPost_ret (v := .tuple #[.agg #[.bool false, .int .i64 0, .int .i64 0, .int .i64 (-1)], .int .i64 0]) (by simp [results, Tryd.results8, go_sem, x1, x2, x3, x4]) rfl ?_
  exact ⟨rfl, HQ.out.done _ _ _ _⟩

set_option maxHeartbeats 4000000 in
set_option maxRecDepth 100000 in
theorem refContent_star_u (s U R A T L : ByteArray) (n3 e3 : Int) (w : World)
    (c1 : ∀ W, Calls Tryd.prog 18 #[.string s, .int .u8 32] W fun e w' => e = .returned (.tuple #[.string U, .string R, .bool true]) ∧ Below W.heap.size W w')
    (c2 : ∀ W, Calls Tryd.prog 18 #[.string R, .int .u8 47] W fun e w' => e = .returned (.tuple #[.string A, .string T, .bool true]) ∧ Below W.heap.size W w')
    (cl : ∀ W, Calls Tryd.prog 19 #[.string U] W fun e w' => e = .returned (.string L) ∧ Below W.heap.size W w')
    (hl : (L.toList != [98, 121, 116, 101, 115]) = false)
    (ha : (A.toList != [42]) = false)
    (ht : (T.toList != [42]) = true)
    (p3 : ∀ W, Calls Tryd.prog 20 #[.string T] W fun x w' => x = .returned (.tuple #[.int .i64 n3, .int .i64 e3]) ∧ W = w')
    (h3 : (e3 == 3) = true) :
    Calls Tryd.prog 8 #[.string s] w (ConTo false 0 0 0 3 w) := by
  have hlE := eq_of_bne hl
  have haE := eq_of_bne ha
  have htE := eq_of_bne ht
  have HQ := Lib.hid (Qt.new w 26 26)
  go_enter Tryd.func8, Tryd.ntmps8
  go_wp2_with (first
    | (go_at_call 18; (with_reducible refine (c1 _).mono ?_); rintro e w1 ⟨rfl, hb⟩; replace HQ := Lib.hid (HQ.out.next hb); clear hb; obtain ⟨_, ⟨x0, x1, x2, x3, x4, x5, x6, x7, x8⟩, ⟨d0, d1, d2, d3, d4, d5, d6, d7, d8⟩⟩ := HQ.out)
    | (go_at_call 18; (with_reducible refine (c2 _).mono ?_); rintro e w2 ⟨rfl, hb⟩; replace HQ := Lib.hid (HQ.out.next hb); clear hb; obtain ⟨_, ⟨x0, x1, x2, x3, x4, x5, x6, x7, x8⟩, ⟨d0, d1, d2, d3, d4, d5, d6, d7, d8⟩⟩ := HQ.out)
    | (go_at_call 19; refine (cl _).mono ?_; rintro e w3 ⟨rfl, hb⟩; replace HQ := Lib.hid (HQ.out.next hb); clear hb; obtain ⟨_, ⟨x0, x1, x2, x3, x4, x5, x6, x7, x8⟩, ⟨d0, d1, d2, d3, d4, d5, d6, d7, d8⟩⟩ := HQ.out)
    | (go_at_call 20; (with_reducible refine (p3 _).mono ?_); rintro e w7 ⟨rfl, rfl⟩))
  refine bodyPost_ret (v := .tuple #[.agg #[.bool false, .int .i64 0, .int .i64 0, .int .i64 0], .int .i64 3]) (by simp [results, Tryd.results8, go_sem, x1, x2, x3, x4]) rfl ?_
  exact ⟨rfl, HQ.out.done _ _ _ _⟩

set_option maxHeartbeats 4000000 in
set_option maxRecDepth 100000 in
theorem refContent_star_no (s U R A T L : ByteArray) (n3 e3 : Int) (w : World)
    (c1 : ∀ W, Calls Tryd.prog 18 #[.string s, .int .u8 32] W fun e w' => e = .returned (.tuple #[.string U, .string R, .bool true]) ∧ Below W.heap.size W w')
    (c2 : ∀ W, Calls Tryd.prog 18 #[.string R, .int .u8 47] W fun e w' => e = .returned (.tuple #[.string A, .string T, .bool true]) ∧ Below W.heap.size W w')
    (cl : ∀ W, Calls Tryd.prog 19 #[.string U] W fun e w' => e = .returned (.string L) ∧ Below W.heap.size W w')
    (hl : (L.toList != [98, 121, 116, 101, 115]) = false)
    (ha : (A.toList != [42]) = false)
    (ht : (T.toList != [42]) = true)
    (p3 : ∀ W, Calls Tryd.prog 20 #[.string T] W fun x w' => x = .returned (.tuple #[.int .i64 n3, .int .i64 e3]) ∧ W = w')
    (h3 : (e3 == 3) = false)
    (g3 : (e3 != 0) = true) :
    Calls Tryd.prog 8 #[.string s] w (ConTo false 0 0 0 9 w) := by
  have hlE := eq_of_bne hl
  have haE := eq_of_bne ha
  have htE := eq_of_bne ht
  have g3E := eq_of_bne g3
  have HQ := Lib.hid (Qt.new w 26 26)
  go_enter Tryd.func8, Tryd.ntmps8
  go_wp2_with (first
    | (go_at_call 18; (with_reducible refine (c1 _).mono ?_); rintro e w1 ⟨rfl, hb⟩; replace HQ := Lib.hid (HQ.out.next hb); clear hb; obtain ⟨_, ⟨x0, x1, x2, x3, x4, x5, x6, x7, x8⟩, ⟨d0, d1, d2, d3, d4, d5, d6, d7, d8⟩⟩ := HQ.out)
    | (go_at_call 18; (with_reducible refine (c2 _).mono ?_); rintro e w2 ⟨rfl, hb⟩; replace HQ := Lib.hid (HQ.out.next hb); clear hb; obtain ⟨_, ⟨x0, x1, x2, x3, x4, x5, x6, x7, x8⟩, ⟨d0, d1, d2, d3, d4, d5, d6, d7, d8⟩⟩ := HQ.out)
    | (go_at_call 19; refine (cl _).mono ?_; rintro e w3 ⟨rfl, hb⟩; replace HQ := Lib.hid (HQ.out.next hb); clear hb; obtain ⟨_, ⟨x0, x1, x2, x3, x4, x5, x6, x7, x8⟩, ⟨d0, d1, d2, d3, d4, d5, d6, d7, d8⟩⟩ := HQ.out)
    | (go_at_call 20; (with_reducible refine (p3 _).mono ?_); rintro e w7 ⟨rfl, rfl⟩))
  refine bodyPost_ret (v := .tuple #[.agg #[.bool false, .int .i64 0, .int .i64 0, .int .i64 0], .int .i64 9]) (by simp [results, Tryd.results8, go_sem, x1, x2, x3, x4]) rfl ?_
  exact ⟨rfl, (HQ.out.at1 n3).done _ _ _ _⟩

set_option maxHeartbeats 4000000 in
set_option maxRecDepth 100000 in
theorem refContent_star_nw (s U R A T L : ByteArray) (n3 e3 : Int) (w : World)
    (c1 : ∀ W, Calls Tryd.prog 18 #[.string s, .int .u8 32] W fun e w' => e = .returned (.tuple #[.string U, .string R, .bool true]) ∧ Below W.heap.size W w')
    (c2 : ∀ W, Calls Tryd.prog 18 #[.string R, .int .u8 47] W fun e w' => e = .returned (.tuple #[.string A, .string T, .bool true]) ∧ Below W.heap.size W w')
    (cl : ∀ W, Calls Tryd.prog 19 #[.string U] W fun e w' => e = .returned (.string L) ∧ Below W.heap.size W w')
    (hl : (L.toList != [98, 121, 116, 101, 115]) = false)
    (ha : (A.toList != [42]) = false)
    (ht : (T.toList != [42]) = true)
    (p3 : ∀ W, Calls Tryd.prog 20 #[.string T] W fun x w' => x = .returned (.tuple #[.int .i64 n3, .int .i64 e3]) ∧ W = w')
    (h3 : (e3 == 3) = false)
    (g3 : (e3 != 0) = false)
    (cr : ∀ W, Calls Tryd.prog 11 #[.agg #[.bool false, .int .i64 0, .int .i64 0, .int .i64 n3]] W fun e w' => e = .returned (.bool false) ∧ Below W.heap.size W w') :
    Calls Tryd.prog 8 #[.string s] w (ConTo false 0 0 0 3 w) := by
  have hlE := eq_of_bne hl
  have haE := eq_of_bne ha
  have htE := eq_of_bne ht
  have g3E := eq_of_bne g3
  have HQ := Lib.hid (Qt.new w 26 26)
  go_enter Tryd.func8, Tryd.ntmps8
  go_wp2_with (first
    | (go_at_call 18; (with_reducible refine (c1 _).mono ?_); rintro e w1 ⟨rfl, hb⟩; replace HQ := Lib.hid (HQ.out.next hb); clear hb; obtain ⟨_, ⟨x0, x1, x2, x3, x4, x5, x6, x7, x8⟩, ⟨d0, d1, d2, d3, d4, d5, d6, d7, d8⟩⟩ := HQ.out)
    | (go_at_call 18; (with_reducible refine (c2 _).mono ?_); rintro e w2 ⟨rfl, hb⟩; replace HQ := Lib.hid (HQ.out.next hb); clear hb; obtain ⟨_, ⟨x0, x1, x2, x3, x4, x5, x6, x7, x8⟩, ⟨d0, d1, d2, d3, d4, d5, d6, d7, d8⟩⟩ := HQ.out)
    | (go_at_call 19; refine (cl _).mono ?_; rintro e w3 ⟨rfl, hb⟩; replace HQ := Lib.hid (HQ.out.next hb); clear hb; obtain ⟨_, ⟨x0, x1, x2, x3, x4, x5, x6, x7, x8⟩, ⟨d0, d1, d2, d3, d4, d5, d6, d7, d8⟩⟩ := HQ.out)
    | (go_at_call 20; (with_reducible refine (p3 _).mono ?_); rintro e w7 ⟨rfl, rfl⟩)
    | (go_at_call 11; refine (cr _).mono ?_; rintro e w8 ⟨rfl, hb⟩; replace HQ := Lib.hid ((HQ.out.at1 n3).next hb); clear hb; obtain ⟨_, ⟨x0, x1, x2, x3, x4, x5, x6, x7, x8⟩, ⟨d0, d1, d2, d3, d4, d5, d6, d7, d8⟩⟩ := HQ.out))
  refine bodyPost_ret (v := .tuple #[.agg #[.bool false, .int .i64 0, .int .i64 0, .int .i64 0], .int .i64 3]) (by simp [results, Tryd.results8, go_sem, x1, x2, x3, x4]) rfl ?_
  exact ⟨rfl, HQ.out.done _ _ _ _⟩

set_option maxHeartbeats 4000000 in
set_option maxRecDepth 100000 in
theorem refContent_star_nr (s U R A T L : ByteArray) (n3 e3 : Int) (w : World)
    (c1 : ∀ W, Calls Tryd.prog 18 #[.string s, .int .u8 32] W fun e w' => e = .returned (.tuple #[.string U, .string R, .bool true]) ∧ Below W.heap.size W w')
    (c2 : ∀ W, Calls Tryd.prog 18 #[.string R, .int .u8 47] W fun e w' => e = .returned (.tuple #[.string A, .string T, .bool true]) ∧ Below W.heap.size W w')
    (cl : ∀ W, Calls Tryd.prog 19 #[.string U] W fun e w' => e = .returned (.string L) ∧ Below W.heap.size W w')
    (hl : (L.toList != [98, 121, 116, 101, 115]) = false)
    (ha : (A.toList != [42]) = false)
    (ht : (T.toList != [42]) = true)
    (p3 : ∀ W, Calls Tryd.prog 20 #[.string T] W fun x w' => x = .returned (.tuple #[.int .i64 n3, .int .i64 e3]) ∧ W = w')
    (h3 : (e3 == 3) = false)
    (g3 : (e3 != 0) = false)
    (cr : ∀ W, Calls Tryd.prog 11 #[.agg #[.bool false, .int .i64 0, .int .i64 0, .int .i64 n3]] W fun e w' => e = .returned (.bool true) ∧ Below W.heap.size W w') :
    Calls Tryd.prog 8 #[.string s] w (ConTo false 0 0 n3 0 w) := by
  have hlE := eq_of_bne hl
  have haE := eq_of_bne ha
  have htE := eq_of_bne ht
  have g3E := eq_of_bne g3
  have HQ := Lib.hid (Qt.new w 26 26)
  go_enter Tryd.func8, Tryd.ntmps8
  go_wp2_with (first
    | (go_at_call 18; (with_reducible refine (c1 _).mono ?_); rintro e w1 ⟨rfl, hb⟩; replace HQ := Lib.hid (HQ.out.next hb); clear hb; obtain ⟨_, ⟨x0, x1, x2, x3, x4, x5, x6, x7, x8⟩, ⟨d0, d1, d2, d3, d4, d5, d6, d7, d8⟩⟩ := HQ.out)
    | (go_at_call 18; (with_reducible refine (c2 _).mono ?_); rintro e w2 ⟨rfl, hb⟩; replace HQ := Lib.hid (HQ.out.next hb); clear hb; obtain ⟨_, ⟨x0, x1, x2, x3, x4, x5, x6, x7, x8⟩, ⟨d0, d1, d2, d3, d4, d5, d6, d7, d8⟩⟩ := HQ.out)
    | (go_at_call 19; refine (cl _).mono ?_; rintro e w3 ⟨rfl, hb⟩; replace HQ := Lib.hid (HQ.out.next hb); clear hb; obtain ⟨_, ⟨x0, x1, x2, x3, x4, x5, x6, x7, x8⟩, ⟨d0, d1, d2, d3, d4, d5, d6, d7, d8⟩⟩ := HQ.out)
    | (go_at_call 20; (with_reducible refine (p3 _).mono ?_); rintro e w7 ⟨rfl, rfl⟩)
    | (go_at_call 11; refine (cr _).mono ?_; rintro e w8 ⟨rfl, hb⟩; replace HQ := Lib.hid ((HQ.out.at1 n3).next hb); clear hb; obtain ⟨_, ⟨x0, x1, x2, x3, x4, x5, x6, x7, x8⟩, ⟨d0, d1, d2, d3, d4, d5, d6, d7, d8⟩⟩ := HQ.out))
  refine bodyPost_ret (v := .tuple #[.agg #[.bool false, .int .i64 0, .int .i64 0, .int .i64 n3], .int .i64 0]) (by simp [results, Tryd.results8, go_sem, x1, x2, x3, x4]) rfl ?_
  exact ⟨rfl, HQ.out.done _ _ _ _⟩
end Go.Proofs.YtejmiodblfpkjaaDoor
