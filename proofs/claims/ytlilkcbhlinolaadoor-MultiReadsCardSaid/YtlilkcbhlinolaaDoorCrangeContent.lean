/-
  Contract of crange.content: what stands ahead of the slash and behind it, its numbers read by the method value.
-/
import Derived.Test.YtlilkcbhlinolaaDoorCrangeNumber
import Derived.Test.YtlilkcbhlinolaaDoorTextLower
namespace Go.Proofs.YtlilkcbhlinolaaDoor
open Go.ChangeShapes Go.WideShapes Go.ChangeAt Go.RowKit

/-- how it stands within content: the reader's block g, the result's block and c's block behind it -/
def St (w : World) (g : Nat) (p q k : Bool) (a b n : Int) (w' : World) : Prop :=
  g < w.heap.size ∧ Below g w w' ∧ Rd w' g p q ∧ Four w' w.heap.size (.bool false) (.int .i64 0) (.int .i64 0) (.int .i64 0) ∧ Four w' (w.heap.size + 1) (.bool k) (.int .i64 a) (.int .i64 b) (.int .i64 n)
theorem Four.second (w : World) (o : Obj) (a b c d : Value) (t : TypeId) : Four ((w.alloc o).alloc (.cells #[a, b, c, d] t)) (w.heap.size + 1) a b c d := by
  have := Four.new (w.alloc o) a b c d t
  rwa [size_alloc] at this
theorem Four.set3 {w : World} {n : Nat} {a b c d : Value} (h : Four w n a b c d) (x y z : Value) :
    Four (((w.setCell ⟨n, 0, none⟩ x).setCell ⟨n, 1, none⟩ y).setCell ⟨n, 2, none⟩ z) n x y z d := by
  obtain ⟨h1, h2, h3, h4, h5, h6, h7, h8, h9⟩ := h
  have ne {i j : Nat} (hij : i ≠ j) : (⟨n, i, none⟩ : Addr) ≠ ⟨n, j, none⟩ := fun e => hij (by injection e)
  refine ⟨by simpa using h1, ?_, ?_, ?_, ?_, by simpa using h6, by simpa using h7, by simpa using h8, by simpa using h9⟩
  · rw [World.cell?_setCell_other _ _ _ _ (ne (by omega)), World.cell?_setCell_other _ _ _ _ (ne (by omega)), World.cell?_setCell_same' _ _ _ (by rw [h2]; rfl)]
  · rw [World.cell?_setCell_other _ _ _ _ (ne (by omega)), World.cell?_setCell_same' _ _ _ (by rw [World.cell?_setCell_other _ _ _ _ (ne (by omega)), h3]; rfl)]
  · rw [World.cell?_setCell_same' _ _ _ (by rw [World.cell?_setCell_other _ _ _ _ (ne (by omega)), World.cell?_setCell_other _ _ _ _ (ne (by omega)), h4]; rfl)]
  · rw [World.cell?_setCell_other _ _ _ _ (ne (by omega)), World.cell?_setCell_other _ _ _ _ (ne (by omega)), World.cell?_setCell_other _ _ _ _ (ne (by omega))]; exact h5
theorem Four.far {w : World} {n m : Nat} {a b c d : Value} (h : Four w n a b c d) (hm : m ≠ n) (i : Nat) (x : Value) : Four (w.setCell ⟨m, i, none⟩ x) n a b c d := by
  obtain ⟨h1, h2, h3, h4, h5, h6, h7, h8, h9⟩ := h
  have ne {i j : Nat} : (⟨m, i, none⟩ : Addr) ≠ ⟨n, j, none⟩ := fun e => hm (by injection e)
  refine ⟨by simpa using h1, ?_, ?_, ?_, ?_, by simpa using h6, by simpa using h7, by simpa using h8, by simpa using h9⟩
  all_goals rw [World.cell?_setCell_other _ _ _ _ ne]; assumption
section
variable {w W w' : World} {g : Nat} {p q p' q' k : Bool} {a b n : Int}
theorem St.new (h : Rd w g p q) (t u : TypeId) : St w g p q false 0 0 (-1) ((w.alloc (.cells #[.bool false, .int .i64 0, .int .i64 0, .int .i64 0] t)).alloc (.cells #[.bool false, .int .i64 0, .int .i64 0, .int .i64 (-1)] u)) := by
  have hg := h.1
  have hb := (below_new4 w (.cells #[.bool false, .int .i64 0, .int .i64 0, .int .i64 0] t)).alloc (by simp) (.cells #[.bool false, .int .i64 0, .int .i64 0, .int .i64 (-1)] u)
  exact ⟨hg, hb.mono (by omega), h.below hb, (Four.new _ _ _ _ _ _).alloc _, Four.second _ _ _ _ _ _ _⟩
theorem St.next (h : St w g p q k a b n W) (hb : Below W.heap.size W w') : St w g p q k a b n w' := by
  obtain ⟨h0, h1, h2, h3, h4⟩ := h
  exact ⟨h0, h1.trans (hb.mono (by have := h2.1; omega)), h2.below hb, h3.below hb, h4.below hb⟩
theorem St.wrote (h : St w g p q k a b n W) (hr : Rd w' g p' q') (hw : Wrote g W w') : St w g p' q' k a b n w' := by
  obtain ⟨h0, h1, h2, h3, h4⟩ := h
  exact ⟨h0, h1.trans hw.below, hr, h3.wrote hw (by omega), h4.wrote hw (by omega)⟩
theorem St.at (h : St w g p q k a b n W) (x : Bool) (y z : Int) :
    St w g p q x y z n (((W.setCell ⟨w.heap.size + 1, 0, none⟩ (.bool x)).setCell ⟨w.heap.size + 1, 1, none⟩ (.int .i64 y)).setCell ⟨w.heap.size + 1, 2, none⟩ (.int .i64 z)) := by
  obtain ⟨h0, h1, h2, h3, h4⟩ := h
  exact ⟨h0, ((h1.setCell (p := ⟨_, _, _⟩) (Nat.le_succ_of_le (Nat.le_of_lt h0)) _).setCell (p := ⟨_, _, _⟩) (Nat.le_succ_of_le (Nat.le_of_lt h0)) _).setCell (p := ⟨_, _, _⟩) (Nat.le_succ_of_le (Nat.le_of_lt h0)) _,
    ((h2.set (by omega) _ _).set (by omega) _ _).set (by omega) _ _, ((h3.far (by omega) _ _).far (by omega) _ _).far (by omega) _ _, h4.set3 _ _ _⟩
/-- the result, written -/
theorem St.done (h : St w g p q k a b n W) (x1 x2 x3 x4 : Value) :
    Rd ((((W.setCell ⟨w.heap.size, 0, none⟩ x1).setCell ⟨w.heap.size, 1, none⟩ x2).setCell ⟨w.heap.size, 2, none⟩ x3).setCell ⟨w.heap.size, 3, none⟩ x4) g p q ∧
    Below g w ((((W.setCell ⟨w.heap.size, 0, none⟩ x1).setCell ⟨w.heap.size, 1, none⟩ x2).setCell ⟨w.heap.size, 2, none⟩ x3).setCell ⟨w.heap.size, 3, none⟩ x4) := by
  obtain ⟨h0, h1, h2, h3, h4⟩ := h
  exact ⟨(((h2.set (by omega) _ _).set (by omega) _ _).set (by omega) _ _).set (by omega) _ _,
    (((h1.setCell (p := ⟨_, _, _⟩) (Nat.le_of_lt h0) _).setCell (p := ⟨_, _, _⟩) (Nat.le_of_lt h0) _).setCell (p := ⟨_, _, _⟩) (Nat.le_of_lt h0) _).setCell (p := ⟨_, _, _⟩) (Nat.le_of_lt h0) _⟩
/-- the same, with the last cell of c written ahead of it -/
theorem St.done2 (h : St w g p q k a b n W) (x0 x1 x2 x3 x4 : Value) :
    Rd (((((W.setCell ⟨w.heap.size + 1, 3, none⟩ x0).setCell ⟨w.heap.size, 0, none⟩ x1).setCell ⟨w.heap.size, 1, none⟩ x2).setCell ⟨w.heap.size, 2, none⟩ x3).setCell ⟨w.heap.size, 3, none⟩ x4) g p q ∧
    Below g w (((((W.setCell ⟨w.heap.size + 1, 3, none⟩ x0).setCell ⟨w.heap.size, 0, none⟩ x1).setCell ⟨w.heap.size, 1, none⟩ x2).setCell ⟨w.heap.size, 2, none⟩ x3).setCell ⟨w.heap.size, 3, none⟩ x4) := by
  obtain ⟨h0, h1, h2, h3, h4⟩ := h
  exact ⟨((((h2.set (by omega) _ _).set (by omega) _ _).set (by omega) _ _).set (by omega) _ _).set (by omega) _ _,
    ((((h1.setCell (p := ⟨_, _, _⟩) (Nat.le_succ_of_le (Nat.le_of_lt h0)) _).setCell (p := ⟨_, _, _⟩) (Nat.le_of_lt h0) _).setCell (p := ⟨_, _, _⟩) (Nat.le_of_lt h0) _).setCell (p := ⟨_, _, _⟩) (Nat.le_of_lt h0) _).setCell (p := ⟨_, _, _⟩) (Nat.le_of_lt h0) _⟩
theorem Rd.two_new (h : Rd w g p q) (o o2 : Obj) : Rd ((w.alloc o).alloc o2) g p q ∧ Below g w ((w.alloc o).alloc o2) := by
  have hg := h.1
  have hb := (below_new4 w o).alloc (by simp) o2
  exact ⟨h.below hb, hb.mono (by omega)⟩
end

set_option maxHeartbeats 2000000 in
theorem content_walk (A T X Y : ByteArray) (is sa st u1 v1 u2 v2 u3 v3 : Bool) (g : Nat) (n1 n2 n3 : Int) (w : World) (hR : Rd w g false false) (hn2 : 0 ≤ n2 ∧ n2 ≤ 4611686018427387903)
    (ha : (A.toList == [42]) = sa) (ha2 : (A.toList != [42]) = !sa) (ht : (T.toList == [42]) = st) (ht2 : (T.toList != [42]) = !st)
    (cc : ∀ W, Calls Tryd.prog 57 #[.string A, .int .u8 45] W fun e w' => e = .returned (.tuple #[.string X, .string Y, .bool is]) ∧ Below W.heap.size W w')
    (c1 : ∀ W p q, Rd W g p q → Calls Tryd.prog 60 #[.pointer (some ⟨g, 0, none⟩), .string X] W fun x w' => x = .returned (.int .i64 n1) ∧ Rd w' g (p || u1) (q || v1) ∧ Wrote g W w')
    (c2 : ∀ W p q, Rd W g p q → Calls Tryd.prog 60 #[.pointer (some ⟨g, 0, none⟩), .string Y] W fun x w' => x = .returned (.int .i64 n2) ∧ Rd w' g (p || u2) (q || v2) ∧ Wrote g W w')
    (c3 : ∀ W p q, Rd W g p q → Calls Tryd.prog 60 #[.pointer (some ⟨g, 0, none⟩), .string T] W fun x w' => x = .returned (.int .i64 n3) ∧ Rd w' g (p || u3) (q || v3) ∧ Wrote g W w') :
    Calls Tryd.prog 59 #[.string A, .string T, .func (.func 60) #[.pointer (some ⟨g, 0, none⟩)] #[]] w fun e w' =>
      e = .returned (.agg #[.bool (!sa), .int .i64 (if sa then 0 else n1), .int .i64 (if sa then 0 else n2 + 1), .int .i64 (if st then -1 else n3)]) ∧
        Rd w' g ((!sa && (u1 || u2)) || (!st && u3)) ((!sa && (v1 || v2)) || (!st && v3)) ∧ Below g w w' := by
  have HR := Lib.hid hR
  have HS := Lib.hid (St.new hR 52 52)
  clear hR
  cases sa <;> cases st
  case false.false =>
    go_enter Tryd.func59, Tryd.ntmps59
    go_wp2_with (first
      | (go_at_call 57; refine (cc _).mono ?_; rintro e w1 ⟨rfl, hb⟩; replace HS := Lib.hid (HS.out.next hb); clear hb; obtain ⟨i0, i1, i2, ⟨i3, f0, f1, f2, f3, f4, f5, f6, f7⟩, ⟨i4, d0, d1, d2, d3, d4, d5, d6, d7⟩⟩ := HS.out)
      | (go_at_call 60; have hs := HS.out.2.2.1; (with_reducible refine (c1 _ _ _ hs).mono ?_); clear hs; rintro e w2 ⟨rfl, hr, hw⟩; replace HS := Lib.hid (HS.out.wrote hr hw); clear hr hw; obtain ⟨j0, j1, j2, ⟨j3, r0, r1, r2, r3, r4, r5, r6, r7⟩, ⟨j4, s0, s1, s2, s3, s4, s5, s6, s7⟩⟩ := HS.out)
      | (go_at_call 60; have hs := HS.out.2.2.1; (with_reducible refine (c2 _ _ _ hs).mono ?_); clear hs; rintro e w3 ⟨rfl, hr, hw⟩; replace HS := Lib.hid (HS.out.wrote hr hw); clear hr hw; obtain ⟨j0, j1, j2, ⟨j3, r0, r1, r2, r3, r4, r5, r6, r7⟩, ⟨j4, s0, s1, s2, s3, s4, s5, s6, s7⟩⟩ := HS.out)
      | (go_at_call 60; have hs := HS.out.2.2.1; (with_reducible refine (c3 _ _ _ hs).mono ?_); clear hs; rintro e w4 ⟨rfl, hr, hw⟩; replace HS := Lib.hid (HS.out.wrote hr hw); clear hr hw; obtain ⟨j0, j1, j2, ⟨j3, r0, r1, r2, r3, r4, r5, r6, r7⟩, ⟨j4, s0, s1, s2, s3, s4, s5, s6, s7⟩⟩ := HS.out)
      | (go_at_call 60; replace HS := Lib.hid (HS.out.at true n1 (n2 + 1)); have hs := HS.out.2.2.1; (with_reducible refine (c3 _ _ _ hs).mono ?_); clear hs; rintro e w4 ⟨rfl, hr, hw⟩; replace HS := Lib.hid (HS.out.wrote hr hw); clear hr hw; obtain ⟨j0, j1, j2, ⟨j3, r0, r1, r2, r3, r4, r5, r6, r7⟩, ⟨j4, s0, s1, s2, s3, s4, s5, s6, s7⟩⟩ := HS.out))
    refine bodyPost_ret (v := .agg #[.bool true, .int .i64 n1, .int .i64 (n2 + 1), .int .i64 n3]) (by simp [results, Tryd.results59, go_sem, r0, r1, r2, r3]) rfl ?_
    exact ⟨rfl, (HS.out.done2 _ _ _ _ _).1, (HS.out.done2 _ _ _ _ _).2⟩
  case false.true =>
    go_enter Tryd.func59, Tryd.ntmps59
    go_wp2_with (first
      | (go_at_call 57; refine (cc _).mono ?_; rintro e w1 ⟨rfl, hb⟩; replace HS := Lib.hid (HS.out.next hb); clear hb; obtain ⟨i0, i1, i2, ⟨i3, f0, f1, f2, f3, f4, f5, f6, f7⟩, ⟨i4, d0, d1, d2, d3, d4, d5, d6, d7⟩⟩ := HS.out)
      | (go_at_call 60; have hs := HS.out.2.2.1; (with_reducible refine (c1 _ _ _ hs).mono ?_); clear hs; rintro e w2 ⟨rfl, hr, hw⟩; replace HS := Lib.hid (HS.out.wrote hr hw); clear hr hw; obtain ⟨j0, j1, j2, ⟨j3, r0, r1, r2, r3, r4, r5, r6, r7⟩, ⟨j4, s0, s1, s2, s3, s4, s5, s6, s7⟩⟩ := HS.out)
      | (go_at_call 60; have hs := HS.out.2.2.1; (with_reducible refine (c2 _ _ _ hs).mono ?_); clear hs; rintro e w3 ⟨rfl, hr, hw⟩; replace HS := Lib.hid (HS.out.wrote hr hw); clear hr hw; obtain ⟨j0, j1, j2, ⟨j3, r0, r1, r2, r3, r4, r5, r6, r7⟩, ⟨j4, s0, s1, s2, s3, s4, s5, s6, s7⟩⟩ := HS.out)
      | (go_at_call 60; have hs := HS.out.2.2.1; (with_reducible refine (c3 _ _ _ hs).mono ?_); clear hs; rintro e w4 ⟨rfl, hr, hw⟩; replace HS := Lib.hid (HS.out.wrote hr hw); clear hr hw; obtain ⟨j0, j1, j2, ⟨j3, r0, r1, r2, r3, r4, r5, r6, r7⟩, ⟨j4, s0, s1, s2, s3, s4, s5, s6, s7⟩⟩ := HS.out)
      | (go_at_call 60; replace HS := Lib.hid (HS.out.at true n1 (n2 + 1)); have hs := HS.out.2.2.1; (with_reducible refine (c3 _ _ _ hs).mono ?_); clear hs; rintro e w4 ⟨rfl, hr, hw⟩; replace HS := Lib.hid (HS.out.wrote hr hw); clear hr hw; obtain ⟨j0, j1, j2, ⟨j3, r0, r1, r2, r3, r4, r5, r6, r7⟩, ⟨j4, s0, s1, s2, s3, s4, s5, s6, s7⟩⟩ := HS.out))
    refine bodyPost_ret (v := .agg #[.bool true, .int .i64 n1, .int .i64 (n2 + 1), .int .i64 (-1)]) (by simp [results, Tryd.results59, go_sem, r0, r1, r2, r3]) rfl ?_
    exact ⟨rfl, ((HS.out.at true n1 (n2 + 1)).done _ _ _ _).1, ((HS.out.at true n1 (n2 + 1)).done _ _ _ _).2⟩
  case true.false =>
    go_enter Tryd.func59, Tryd.ntmps59
    go_wp2_with (first
      | (go_at_call 57; refine (cc _).mono ?_; rintro e w1 ⟨rfl, hb⟩; replace HS := Lib.hid (HS.out.next hb); clear hb; obtain ⟨i0, i1, i2, ⟨i3, f0, f1, f2, f3, f4, f5, f6, f7⟩, ⟨i4, d0, d1, d2, d3, d4, d5, d6, d7⟩⟩ := HS.out)
      | (go_at_call 60; have hs := HS.out.2.2.1; (with_reducible refine (c1 _ _ _ hs).mono ?_); clear hs; rintro e w2 ⟨rfl, hr, hw⟩; replace HS := Lib.hid (HS.out.wrote hr hw); clear hr hw; obtain ⟨j0, j1, j2, ⟨j3, r0, r1, r2, r3, r4, r5, r6, r7⟩, ⟨j4, s0, s1, s2, s3, s4, s5, s6, s7⟩⟩ := HS.out)
      | (go_at_call 60; have hs := HS.out.2.2.1; (with_reducible refine (c2 _ _ _ hs).mono ?_); clear hs; rintro e w3 ⟨rfl, hr, hw⟩; replace HS := Lib.hid (HS.out.wrote hr hw); clear hr hw; obtain ⟨j0, j1, j2, ⟨j3, r0, r1, r2, r3, r4, r5, r6, r7⟩, ⟨j4, s0, s1, s2, s3, s4, s5, s6, s7⟩⟩ := HS.out)
      | (go_at_call 60; have hs := HS.out.2.2.1; (with_reducible refine (c3 _ _ _ hs).mono ?_); clear hs; rintro e w4 ⟨rfl, hr, hw⟩; replace HS := Lib.hid (HS.out.wrote hr hw); clear hr hw; obtain ⟨j0, j1, j2, ⟨j3, r0, r1, r2, r3, r4, r5, r6, r7⟩, ⟨j4, s0, s1, s2, s3, s4, s5, s6, s7⟩⟩ := HS.out)
      | (go_at_call 60; replace HS := Lib.hid (HS.out.at true n1 (n2 + 1)); have hs := HS.out.2.2.1; (with_reducible refine (c3 _ _ _ hs).mono ?_); clear hs; rintro e w4 ⟨rfl, hr, hw⟩; replace HS := Lib.hid (HS.out.wrote hr hw); clear hr hw; obtain ⟨j0, j1, j2, ⟨j3, r0, r1, r2, r3, r4, r5, r6, r7⟩, ⟨j4, s0, s1, s2, s3, s4, s5, s6, s7⟩⟩ := HS.out))
    refine bodyPost_ret (v := .agg #[.bool false, .int .i64 0, .int .i64 0, .int .i64 n3]) (by simp [results, Tryd.results59, go_sem, r0, r1, r2, r3]) rfl ?_
    exact ⟨rfl, (HS.out.done2 _ _ _ _ _).1, (HS.out.done2 _ _ _ _ _).2⟩
  case true.true =>
    go_enter Tryd.func59, Tryd.ntmps59
    go_wp2_with (first
      | (go_at_call 57; refine (cc _).mono ?_; rintro e w1 ⟨rfl, hb⟩; replace HS := Lib.hid (HS.out.next hb); clear hb; obtain ⟨i0, i1, i2, ⟨i3, f0, f1, f2, f3, f4, f5, f6, f7⟩, ⟨i4, d0, d1, d2, d3, d4, d5, d6, d7⟩⟩ := HS.out)
      | (go_at_call 60; have hs := HS.out.2.2.1; (with_reducible refine (c1 _ _ _ hs).mono ?_); clear hs; rintro e w2 ⟨rfl, hr, hw⟩; replace HS := Lib.hid (HS.out.wrote hr hw); clear hr hw; obtain ⟨j0, j1, j2, ⟨j3, r0, r1, r2, r3, r4, r5, r6, r7⟩, ⟨j4, s0, s1, s2, s3, s4, s5, s6, s7⟩⟩ := HS.out)
      | (go_at_call 60; have hs := HS.out.2.2.1; (with_reducible refine (c2 _ _ _ hs).mono ?_); clear hs; rintro e w3 ⟨rfl, hr, hw⟩; replace HS := Lib.hid (HS.out.wrote hr hw); clear hr hw; obtain ⟨j0, j1, j2, ⟨j3, r0, r1, r2, r3, r4, r5, r6, r7⟩, ⟨j4, s0, s1, s2, s3, s4, s5, s6, s7⟩⟩ := HS.out)
      | (go_at_call 60; have hs := HS.out.2.2.1; (with_reducible refine (c3 _ _ _ hs).mono ?_); clear hs; rintro e w4 ⟨rfl, hr, hw⟩; replace HS := Lib.hid (HS.out.wrote hr hw); clear hr hw; obtain ⟨j0, j1, j2, ⟨j3, r0, r1, r2, r3, r4, r5, r6, r7⟩, ⟨j4, s0, s1, s2, s3, s4, s5, s6, s7⟩⟩ := HS.out)
      | (go_at_call 60; replace HS := Lib.hid (HS.out.at true n1 (n2 + 1)); have hs := HS.out.2.2.1; (with_reducible refine (c3 _ _ _ hs).mono ?_); clear hs; rintro e w4 ⟨rfl, hr, hw⟩; replace HS := Lib.hid (HS.out.wrote hr hw); clear hr hw; obtain ⟨j0, j1, j2, ⟨j3, r0, r1, r2, r3, r4, r5, r6, r7⟩, ⟨j4, s0, s1, s2, s3, s4, s5, s6, s7⟩⟩ := HS.out))
    refine bodyPost_ret (v := .agg #[.bool false, .int .i64 0, .int .i64 0, .int .i64 (-1)]) (by simp [results, Tryd.results59, go_sem]) rfl ?_
    exact ⟨rfl, HR.out.two_new _ _⟩
end Go.Proofs.YtlilkcbhlinolaaDoor
