/-
  Two maps held against each other (over a program of 65 words).
-/
import Derived.Test.YtgfafcolfcdkdaaDoorBitMap
import Derived.Laws.StructEq
import Derived.Stop.BytesEq
namespace Go.Proofs.YtgfafcolfcdkdaaDoor
open Go.RowKit
set_option maxRecDepth 100000

theorem all_range_nat : ∀ (xs ys : List Nat), xs.length = ys.length → ((List.range xs.length).all fun i => xs.getD i 0 == ys.getD i 0) = (xs == ys)
  | [], [], _ => rfl
  | x :: xs, y :: ys, h => by
    have ih := all_range_nat xs ys (by simpa using h)
    rw [List.length_cons, List.range_succ_eq_map, List.all_cons, List.all_map]
    simp only [List.getD_cons_zero, Function.comp_def, List.getD_cons_succ, ih]
    simp [List.cons_beq_cons]
  | [], _ :: _, h => by simp at h
  | _ :: _, [], h => by simp at h
theorem run_equalIn_words {P : Program} (w : World) (d : Nat) (t e : TypeId) (n : Nat) (ht : P.underlying t = some (.array n e)) (he : P.underlying e = some (.int .u64)) (hsz : ∀ w, (sizeOf e).run P w = .ok 1 w)
    (xs ys : List Nat) (hx : xs.length = n) (hy : ys.length = n) :
    (Op.equalIn (d + 2) t (.agg (u64s xs).toArray) (.agg (u64s ys).toArray)).run P w = .ok (xs == ys) w := by
  rw [← all_range_nat xs ys (hx.trans hy.symm), hx, List.range_eq_range', Op.equalIn]
  simp only [Sem.run_bind, run_underlying ht, Result.andThen_ok, hsz, Std.Legacy.Range.forIn_eq_forIn_range', Std.Legacy.Range.size, Nat.sub_zero, Nat.add_sub_cancel, Nat.div_one]
  have hl : ∀ i ∈ List.range' 0 n 1, i < n := fun i hi => by simpa using (List.mem_range'_1.1 hi).2
  generalize List.range' 0 n 1 = l at hl ⊢
  induction l with
  | nil => simp
  | cons i l ih =>
    have hi : i < n := hl i (by simp)
    have px : (part e (u64s xs).toArray (i * 1)).run P w = .ok (.int .u64 ((xs.getD i 0 : Nat) : Int)) w := by
      simp [part, isAgg, run_underlying he, u64s, List.getD, List.getElem?_eq_getElem (show i < xs.length by omega)]
    have py : (part e (u64s ys).toArray (i * 1)).run P w = .ok (.int .u64 ((ys.getD i 0 : Nat) : Int)) w := by
      simp [part, isAgg, run_underlying he, u64s, List.getD, List.getElem?_eq_getElem (show i < ys.length by omega)]
    have pe : (Op.equalIn (d + 1) e (.int .u64 ((xs.getD i 0 : Nat) : Int)) (.int .u64 ((ys.getD i 0 : Nat) : Int))).run P w = .ok (xs.getD i 0 == ys.getD i 0) w := by
      rw [run_equalIn_int w d e .u64 .u64 _ _ he]
      congr 1
      rw [Bool.eq_iff_iff]
      simp
      omega
    simp only [List.forIn_cons, Sem.run_bind, px, py, pe, Result.andThen_ok, List.all_cons]
    cases hb : (xs.getD i 0 == ys.getD i 0)
    · simp
    · simp only [Bool.not_true, Bool.false_eq_true, if_false, Sem.run_pure, Result.andThen_ok, Bool.true_and]
      exact ih fun j hj => hl j (by simp [hj])
theorem map_part (k : List Nat) (hk : k.length = 65) (W : World) : (part 25 (u64s k).toArray 0).run Tryd.prog W = .ok (.agg (u64s k).toArray) W := by
  have hsz : ∀ w, (sizeOf 25).run Tryd.prog w = .ok 65 w := fun w => by kernel_rfl
  have hl : (u64s k).length = 65 := by rw [u64s_length, hk]
  have he : (u64s k).take 65 = u64s k := List.take_of_length_le (by omega)
  simp [part, isAgg, run_underlying Tryd.underlying25, hsz, he]
theorem map_fields : Tryd.prog.underlying 27 = some (.struct (Tryd.prog.fieldsOf 27)) := by kernel_rfl
theorem map_held : Tryd.prog.stoodInHeld 27 = false := by kernel_rfl
theorem map_words (d : Nat) (l m : List Nat) (hl : l.length = 65) (hm : m.length = 65) (W : World) : (Op.equalIn (d + 2) 25 (.agg (u64s l).toArray) (.agg (u64s m).toArray)).run Tryd.prog W = .ok (l == m) W :=
  run_equalIn_words (P := Tryd.prog) W d 25 24 65 Tryd.underlying25 Tryd.underlying24 (fun w => by kernel_rfl) l m hl hm
theorem map_equalIn (d : Nat) (l m : List Nat) (hl : l.length = 65) (hm : m.length = 65) (W : World) : (Op.equalIn (d + 3) 27 (.agg (u64s l).toArray) (.agg (u64s m).toArray)).run Tryd.prog W = .ok (l == m) W := by
  rw [run_equalIn_struct W (d + 2) 27 _ _ map_fields map_held]
  simp only [Program.fieldsOf, Tryd.underlying27, Op.eqFields]
  rw [if_pos (by decide)]
  simp only [Sem.run_bind, map_part l hl, map_part m hm, Result.andThen_ok, map_words d l m hl hm]
  cases (l == m) <;> simp
theorem map_eql (l m : List Nat) (hl : l.length = 65) (hm : m.length = 65) (W : World) :
    (binOp BinOp.eql 27 (.agg (u64s l).toArray) (.agg (u64s m).toArray)).run Tryd.prog W = .ok (.bool (l == m)) W := by
  rw [run_eql_struct, map_equalIn 9997 l m hl hm W]
  rfl
end Go.Proofs.YtgfafcolfcdkdaaDoor
