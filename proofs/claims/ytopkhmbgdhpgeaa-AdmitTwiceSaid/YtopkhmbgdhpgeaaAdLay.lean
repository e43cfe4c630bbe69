/-
  What the landed door owes (DoorPrg), whatever its cells are; a door in a variable of the call's own, beside a row of sixteen counts.
-/
import Derived.Test.YtopkhmbgdhpgeaaAdMath
import Derived.Test.YtopkhmbgdhpgeaaBox
import Derived.Test.YtopkhmbgdhpgeaaIntVals
import Derived.LoopTactic
import Derived.BigGuard
import Derived.StillTailTactics
import Derived.BigQuiet
import Derived.Deep.QuietTactic
import Derived.Deep.RegionHeld3
import Derived.Deep.Cut
import Derived.Deep.RegionLaw
namespace Go.Proofs.Ytopkhmbgdhpgeaa
open Go.ChangeShapes Go.WideShapes Go.ChangeAt Go.RowKit
set_option maxRecDepth 100000

/-- a load of a whole row whose guard says yes (XCkAdd has it too) -/
theorem wpList_load_want {P : Program} {ops : Array Oper} {rest : List Oper} {op : Oper} {a : Act} {w : World} {Q : Exit → Act → World → Prop} (hw : Region.wanted op (yielded ops a.tmps) = true) (ty : TypeId) (x : Operand) (ho : op.op = .load ty x)
    (b o : Nat) (hx : a.eval x = .pointer (some ⟨b, o, none⟩)) (cs : List Value) (d : TypeDesc) (hc : w.rangeAt b o cs) (hd : P.underlying ty = some d) (hrow : d.isRow = true) (hi : (P.info? ty).map (·.size) = some cs.length)
    (h : wpList P ops Q rest (a.put op.dst (.agg cs.toArray)) w) : wpList P ops Q (op :: rest) a w :=
  BigFrame.wpList_want hw fun _ hK => wp_load_mid ty x ho b o hx cs d hc hd hrow hi (hK _ _ h)
/-- one of the numbers of a row that came in -/
theorem nums_at {w : World} {B n : Nat} {A : Option Addr} {L : List Int} (h : Vs w B A n (nums .i64 L)) {k : Nat} (hk : k < n) : ∃ g off x, A = some ⟨g, off, none⟩ ∧ g < B ∧ w.cell? ⟨g, off + k, none⟩ = some (.int .i64 x) ∧ L[k]? = some x := by
  have hl : L.length = n := by have := h.1; rwa [nums_length] at this
  obtain ⟨g, off, e, hB, hc⟩ := h.2 (by omega)
  have h1 := hc k (by rw [nums_length]; omega)
  rw [nums_get .i64 L k (by rw [nums_length]; omega) (by omega)] at h1
  exact ⟨g, off, L[k], e, hB, h1, List.getElem?_eq_getElem (by omega)⟩
theorem take_snoc' {L : List Int} {k : Nat} {x : Int} (h : L[k]? = some x) : L.take (k + 1) = L.take k ++ [x] := by
  obtain ⟨hk, e⟩ := List.getElem?_eq_some_iff.1 h
  rw [List.take_succ_eq_append_getElem hk, e]
/-- WHAT THE LANDED DOOR OWES: its `z` cells are a function of its state -/
structure DoorPrg (D : Ad.St → List Value) (z : Nat) : Prop where
  len : ∀ s : Ad.St, s.s.length = 16 → (D s).length = z
  cell : ∀ s, ∀ u ∈ D s, u.oneCell' = true
  size : (Try.prog.info? 26).map (·.size) = some z
  zero : ∃ Z : List Value, Z.length = z ∧ ∀ W, (zeroValue 26).run Try.prog W = .ok (.agg Z.toArray) W
  new : ∀ W, Calls Try.prog 6 #[] W fun e w' => e = .returned (.agg (D Ad.zero).toArray) ∧ Below W.heap.size W w'
  note : ∀ (m : Nat) (s : Ad.St) (o : Int) (W : World), Ad.Ok m s → m ≤ 1000 → Calls Try.prog 7 #[.agg (D s).toArray, .int .i64 o] W fun e w' => e = .returned (.agg (D (Ad.note s o)).toArray) ∧ Below W.heap.size W w'
  seen : ∀ (m : Nat) (s : Ad.St) (o : Int) (W : World), Ad.Ok m s → m ≤ 1000 → Calls Try.prog 8 #[.agg (D s).toArray, .int .i64 o] W fun e w' => e = .returned (.int .i64 (Ad.seen s o)) ∧ Below W.heap.size W w'
  count : ∀ (m : Nat) (s : Ad.St) (W : World), Ad.Ok m s → m ≤ 1000 → Calls Try.prog 9 #[.agg (D s).toArray] W fun e w' => e = .returned (.int .i64 s.n) ∧ Below W.heap.size W w'
  admit : ∀ (m : Nat) (s : Ad.St) (o len most : Int) (W : World), Ad.Ok m s → m ≤ 1000 → Calls Try.prog 10 #[.agg (D s).toArray, .int .i64 o, .int .i64 len, .int .i64 most] W fun e w' => e = .returned (.bool (Ad.admit s o len most)) ∧ Below W.heap.size W w'
/-- a door in a variable of the call's own -/
structure DrIn (D : Ad.St → List Value) (w W : World) (b : Nat) (s : Ad.St) : Prop where
  len : s.s.length = 16
  box : Bx W b 26 (D s)
  below : Below w.heap.size w W
  far : w.heap.size ≤ b
theorem DrIn.on {D : Ad.St → List Value} {w W W' : World} {b : Nat} {s : Ad.St} (h : DrIn D w W b s) (hb : Below W.heap.size W W') : DrIn D w W' b s :=
  ⟨h.len, h.box.below hb h.box.lt, h.below.trans (hb.mono h.below.size), h.far⟩
/-- what loads and stores of a door ask -/
structure DrSz (D : Ad.St → List Value) (s : Ad.St) : Prop where
  size : (Try.prog.info? 26).map (·.size) = some (D s).toArray.size
  sizeL : (Try.prog.info? 26).map (·.size) = some (D s).length
  one : (D s).toArray.all (·.oneCell') = true
section
variable {D : Ad.St → List Value} {z : Nat} (P : DoorPrg D z)
include P
theorem DrSz.of {s : Ad.St} (h : s.s.length = 16) : DrSz D s := ⟨by rw [P.size]; simp [P.len s h], by rw [P.size, P.len s h], all_oneCell_toArray (P.cell s)⟩
structure DrPut (D : Ad.St → List Value) (w W : World) (b : Nat) (s' : Ad.St) : Prop where
  there : W.there b 0 (D s').toArray.size
  into : DrIn D w (W.setCells b 0 (D s')) b s'
  keep : ∀ k, k ≠ b → (W.setCells b 0 (D s')).heap[k]? = W.heap[k]?
theorem DrIn.put {w W : World} {b : Nat} {s s' : Ad.St} (h : DrIn D w W b s) (hl : s'.s.length = 16) : DrPut D w W b s' := by
  have h1 := P.len s h.len
  have h2 := P.len s' hl
  refine ⟨h.box.there (by simp [h1, h2]), ⟨hl, ?_, below_sets _ _ _ _ h.far h.below, h.far⟩, fun k hk => heap_setCells _ _ _ _ _ hk⟩
  have h3 := setCells_bx b 26 (D s') (D s) [] [] W (by rw [h1, h2]) (by simpa using h.box)
  simpa using h3
/-- a new variable for a door -/
theorem DrIn.var {w W : World} {Z : List Value} (hz : Z.length = z) (hb : Below w.heap.size w W) {s : Ad.St} (hl : s.s.length = 16) : (W.alloc (.cells Z.toArray 26)).there W.heap.size 0 (D s).toArray.size ∧ DrIn D w ((W.alloc (.cells Z.toArray 26)).setCells W.heap.size 0 (D s)) W.heap.size s ∧ Below W.heap.size W ((W.alloc (.cells Z.toArray 26)).setCells W.heap.size 0 (D s)) := by
  have h0 := Bx.new W Z 26
  have h2 := P.len s hl
  have h4 : Below W.heap.size W ((W.alloc (.cells Z.toArray 26)).setCells W.heap.size 0 (D s)) := below_sets _ _ 0 _ (Nat.le_refl _) ((Below.refl _ W).alloc (Nat.le_refl _) _)
  refine ⟨h0.there (by simp [h2, hz]), ⟨hl, ?_, hb.trans (h4.mono hb.size), hb.size⟩, h4⟩
  have h1 := setCells_bx W.heap.size 26 (D s) Z [] [] _ (by rw [h2, hz]) (by simpa using h0)
  simpa using h1
end
theorem arr_zero (W : World) : (zeroValue 24).run Try.prog W = .ok (.agg (nums .i64 (List.replicate 16 0)).toArray) W := by kernel_rfl
/-- a door and a row of sixteen counts, each in a variable of its own -/
structure AdIn (D : Ad.St → List Value) (w W : World) (b c : Nat) (s : Ad.St) (L : List Int) : Prop where
  door : DrIn D w W b s
  len : L.length = 16
  row : Bx W c 24 (nums .i64 L)
  far : w.heap.size ≤ c
  ne : b ≠ c
theorem AdIn.on {D : Ad.St → List Value} {w W W' : World} {b c : Nat} {s : Ad.St} {L : List Int} (h : AdIn D w W b c s L) (hb : Below W.heap.size W W') : AdIn D w W' b c s L :=
  ⟨h.door.on hb, h.len, h.row.below hb h.row.lt, h.far, h.ne⟩
/-- the door is another one -/
theorem AdIn.put {D : Ad.St → List Value} {w W : World} {b c : Nat} {s s' : Ad.St} {L : List Int} (h : AdIn D w W b c s L) (hp : DrPut D w W b s') : AdIn D w (W.setCells b 0 (D s')) b c s' L :=
  ⟨hp.into, h.len, (hp.keep c h.ne.symm).trans h.row, h.far, h.ne⟩
theorem nums_set (l : List Int) (k : Nat) (y : Int) : (nums .i64 l).set k (.int .i64 y) = nums .i64 (l.set k y) := by simp [nums, List.map_set]
theorem nums_at? (l : List Int) (k : Nat) (h : k < l.length) : (nums .i64 l)[k]? = some (.int .i64 l[k]) := by simp [nums, h]
/-- a count is another one -/
theorem AdIn.set {D : Ad.St → List Value} {w W : World} {b c : Nat} {s : Ad.St} {L : List Int} (h : AdIn D w W b c s L) (k : Nat) (y : Int) : AdIn D w (W.setCell ⟨c, k, none⟩ (.int .i64 y)) b c s (L.set k y) := by
  refine ⟨⟨h.door.len, h.door.box.far (p := ⟨c, k, none⟩) h.ne _, h.door.below.setCell h.far _, h.door.far⟩, by simp [h.len], ?_, h.far, h.ne⟩
  have h1 := h.row.set k (.int .i64 y)
  rwa [nums_set] at h1
theorem AdIn.at {D : Ad.St → List Value} {w W : World} {b c : Nat} {s : Ad.St} {L : List Int} (h : AdIn D w W b c s L) {k : Nat} (hk : k < 16) : W.cell? ⟨c, k, none⟩ = some (.int .i64 (L.getD k 0)) ∧ W.frozen? ⟨c, k, none⟩ = false := by
  have hl : k < L.length := by rw [h.len]; exact hk
  refine ⟨?_, h.row.frozen k⟩
  rw [h.row.at, nums_at? L k hl, List.getD_eq_getElem?_getD, List.getElem?_eq_getElem hl]
  rfl
end Go.Proofs.Ytopkhmbgdhpgeaa
