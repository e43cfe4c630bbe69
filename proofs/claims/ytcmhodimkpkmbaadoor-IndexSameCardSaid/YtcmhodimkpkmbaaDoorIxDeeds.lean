/-
  Deeds on an index: what they make of it; how a row of them lies; what a program's index owes.
-/
import Derived.Test.YtcmhodimkpkmbaaDoorIxLay
import Derived.Test.YtcmhodimkpkmbaaDoorIxBound
namespace Go.Proofs.YtcmhodimkpkmbaaDoor
open Go.ChangeShapes Go.WideShapes Go.ChangeAt Go.RowKit
set_option maxRecDepth 100000

namespace Ix
structure Deed where
  kind : Int
  b : Bd
  i : Int
  a : Ad
def deed (S : St) (d : Deed) : St := if d.kind = 1 then pc S d.b.obj d.b.gen d.i d.a else if d.kind = 2 then fgt S d.b.obj d.b.gen d.a else bnd S d.b d.a
def made (l : List Deed) : St := l.foldl deed st0
theorem made_snoc (l : List Deed) (d : Deed) : made (l ++ [d]) = deed (made l) d := by simp [made]
theorem ok_deed {S : St} (h : Ok S) (d : Deed) : Ok (deed S d) := by
  unfold deed
  split
  · exact ok_pc h _ _ _ _
  · split
    · exact ok_fgt h _ _ _
    · exact ok_bnd h _ _
theorem ok_fold : ∀ (l : List Deed) (S : St), Ok S → Ok (l.foldl deed S)
  | [], _, h => h
  | d :: l, _, h => ok_fold l _ (ok_deed h d)
theorem ok_made (l : List Deed) : Ok (made l) := ok_fold l _ ok_st0
theorem upd_len {S : St} {n : Nat} (h : ∀ k, (S k).sl.length ≤ n) (k : Nat) {s : Sl} (hs : s.sl.length ≤ n + 1) : ∀ j, (upd S k s j).sl.length ≤ n + 1 := fun j => by
  unfold upd
  split
  · exact hs
  · exact Nat.le_succ_of_le (h j)
theorem deed_len {S : St} {n : Nat} (h : ∀ k, (S k).sl.length ≤ n) (d : Deed) : ∀ k, (deed S d k).sl.length ≤ n + 1 := by
  unfold deed
  split
  · unfold pc
    split
    · refine upd_len h _ ?_
      unfold pc1
      split
      · have := ins_length d.i d.a (S d.b.obj.toNat).sl
        have := h d.b.obj.toNat
        simp only
        omega
      · exact Nat.le_succ_of_le (h _)
    · exact fun k => Nat.le_succ_of_le (h k)
  · split
    · unfold fgt
      split
      · refine upd_len h _ ?_
        have h0 := h d.b.obj.toNat
        unfold fgt1
        dsimp only
        split
        · simp
        · split <;> (first | omega | (dsimp only; omega))
      · exact fun k => Nat.le_succ_of_le (h k)
    · unfold bnd
      split
      · refine upd_len h _ ?_
        have h0 := h d.b.obj.toNat
        unfold bnd1
        split
        · omega
        · split
          · simp
          · split <;> (first | omega | (dsimp only; omega))
      · exact fun k => Nat.le_succ_of_le (h k)
theorem fold_slen : ∀ (l : List Deed) (S : St) (n : Nat), (∀ k, (S k).sl.length ≤ n) → ∀ k, ((l.foldl deed S) k).sl.length ≤ n + l.length
  | [], _, _, h => h
  | d :: l, _, n, h => fun k => by
    have := fold_slen l _ _ (deed_len h d) k
    rw [List.foldl_cons, List.length_cons]
    omega
theorem made_len (l : List Deed) (k : Nat) : ((made l) k).sl.length ≤ l.length := by
  have := fold_slen l st0 0 (fun _ => Nat.le_refl _) k
  rwa [Nat.zero_add] at this
end Ix
/-- a deed's cells, and those of a list -/
def ddC (d : Ix.Deed) : List Value := [.int .i64 d.kind, .int .i64 d.b.obj, .int .i64 d.b.gen, .string d.b.tag, .int .i64 d.b.len, .int .i64 d.b.tick, .int .i64 d.i, .int .i64 d.a.1, .int .i64 d.a.2]
def ddV (l : List Ix.Deed) : List Value := l.flatMap ddC
theorem ddV_cons (d : Ix.Deed) (l : List Ix.Deed) : ddV (d :: l) = ddC d ++ ddV l := rfl
theorem ddV_append (l m : List Ix.Deed) : ddV l ++ ddV m = ddV (l ++ m) := by simp [ddV]
theorem ddV_length (l : List Ix.Deed) : (ddV l).length = l.length * 9 := by
  induction l with
  | nil => rfl
  | cons x l ih => rw [ddV_cons, List.length_append, ih, List.length_cons]; show 9 + _ = _; omega
theorem ddV_one (l : List Ix.Deed) : ∀ u ∈ ddV l, u.oneCell' = true := by
  intro u hu
  obtain ⟨x, _, hx⟩ := List.mem_flatMap.1 hu
  simp only [ddC, List.mem_cons, List.not_mem_nil, or_false] at hx
  rcases hx with rfl | rfl | rfl | rfl | rfl | rfl | rfl | rfl | rfl <;> rfl
theorem ddV_get : ∀ (l : List Ix.Deed) (k : Nat) (h : k < l.length) (j : Nat), j < 9 → (ddV l)[k * 9 + j]? = (ddC l[k])[j]?
  | [], k, h, _, _ => absurd h (by simp)
  | x :: l, 0, _, j, hj => by
    rw [ddV_cons, List.getElem?_append_left (by show 0 * 9 + j < 9; omega)]
    simp
  | x :: l, k + 1, h, j, hj => by
    rw [ddV_cons, List.getElem?_append_right (by show 9 ≤ _; omega)]
    have := ddV_get l k (by simpa using h) j hj
    rw [show (k + 1) * 9 + j - (ddC x).length = k * 9 + j by show _ - 9 = _; omega, this]
    rfl
/-- n deeds from an address on, all below block B -/
def Dv (w : World) (B : Nat) (A : Option Addr) (n : Nat) (l : List Ix.Deed) : Prop := Vs w B A (n * 9) (ddV l)
theorem Dv.len {w : World} {B n : Nat} {A : Option Addr} {l : List Ix.Deed} (h : Dv w B A n l) : l.length = n := by
  have := Vs.len h
  rw [ddV_length] at this
  omega
/-- what a program's index owes: R own W cs S: its cells cs tell S, by blocks own alone -/
structure IxPrg (R : (Nat → Prop) → World → List Value → Ix.St → Prop) (sz : Nat) : Prop where
  size : (Tryd.prog.info? 35).map (·.size) = some sz
  len : ∀ {own W cs S}, R own W cs S → cs.length = sz
  one : ∀ {own W cs S}, R own W cs S → ∀ v ∈ cs, v.oneCell' = true
  lt : ∀ {own W cs S i}, R own W cs S → own i → i < W.heap.size
  frame : ∀ {own W W' cs S}, R own W cs S → (∀ i, own i → W'.heap[i]? = W.heap[i]?) → R own W' cs S
  new : ∀ W, Calls Tryd.prog 13 #[] W fun e W' => ∃ cs own, e = .returned (.agg cs.toArray) ∧ R own W' cs Ix.st0 ∧ (∀ i, own i → W.heap.size ≤ i) ∧ Below W.heap.size W W'
  bound : ∀ {own W cs S} b a, R own W cs S → Ix.Ok S → Calls Tryd.prog 9 #[.agg cs.toArray, bdV b, adV a] W fun e W' => ∃ cs' own', e = .returned (.agg cs'.toArray) ∧ R own' W' cs' (Ix.bnd S b a) ∧ (∀ i, own' i → own i ∨ W.heap.size ≤ i) ∧ Below W.heap.size W W'
  piece : ∀ {own W cs S} o g i a, R own W cs S → Ix.Ok S → Calls Tryd.prog 10 #[.agg cs.toArray, .int .i64 o, .int .i64 g, .int .i64 i, adV a] W fun e W' => ∃ cs' own', e = .returned (.agg cs'.toArray) ∧ R own' W' cs' (Ix.pc S o g i a) ∧ (∀ i, own' i → own i ∨ W.heap.size ≤ i) ∧ Below W.heap.size W W'
  forget : ∀ {own W cs S} o g a, R own W cs S → Ix.Ok S → Calls Tryd.prog 11 #[.agg cs.toArray, .int .i64 o, .int .i64 g, adV a] W fun e W' => ∃ cs' own', e = .returned (.agg cs'.toArray) ∧ R own' W' cs' (Ix.fgt S o g a) ∧ (∀ i, own' i → own i ∨ W.heap.size ≤ i) ∧ Below W.heap.size W W'
/-- what there is of an object, if it may be -/
def Ix.see (S : Ix.St) (o : Int) : Ix.Sl := if Ix.may o then S o.toNat else Ix.sl0
/-- and what it tells -/
structure IxTells (R : (Nat → Prop) → World → List Value → Ix.St → Prop) : Prop where
  bind : ∀ {own W cs S} b, R own W cs S → Ix.Ok S → Calls Tryd.prog 14 #[.agg cs.toArray, bdV b] W fun e W' => ∃ cs' own', e = .returned (.agg cs'.toArray) ∧ R own' W' cs' (Ix.bnd S b (0, 0)) ∧ (∀ i, own' i → own i ∨ W.heap.size ≤ i) ∧ Below W.heap.size W W'
  drop : ∀ {own W cs S} o g, R own W cs S → Ix.Ok S → Calls Tryd.prog 16 #[.agg cs.toArray, .int .i64 o, .int .i64 g] W fun e W' => ∃ cs' own', e = .returned (.agg cs'.toArray) ∧ R own' W' cs' (Ix.fgt S o g (0, 0)) ∧ (∀ i, own' i → own i ∨ W.heap.size ≤ i) ∧ Below W.heap.size W W'
  get : ∀ {own W cs S} o, R own W cs S → Ix.Ok S → Calls Tryd.prog 15 #[.agg cs.toArray, .int .i64 o] W fun e W' => e = .returned (.tuple #[bdV (Ix.see S o).bind, .bool (Ix.see S o).b]) ∧ Below W.heap.size W W'
  floor : ∀ {own W cs S} o, R own W cs S → Ix.Ok S → Calls Tryd.prog 17 #[.agg cs.toArray, .int .i64 o] W fun e W' => e = .returned (.int .i64 (Ix.see S o).fl) ∧ Below W.heap.size W W'
end Go.Proofs.YtcmhodimkpkmbaaDoor
