/-
  What the program's index tells: Objects; a slot out of the array as a value.
-/
import Derived.Test.YtcmhodimkpkmbaaDoorIxAsk
import Derived.Test.YtcmhodimkpkmbaaDoorNumsTo
import Derived.LoopTactic
namespace Go.Proofs.YtcmhodimkpkmbaaDoor
open Go.ChangeShapes Go.WideShapes Go.ChangeAt Go.RowKit
set_option maxRecDepth 100000

/-- the objects below a number that have a bind -/
def objs (S : Ix.St) (n : Nat) : List Int := ((List.range n).filter fun k => (S k).b).map fun (k : Nat) => (k : Int)
theorem objs_yes {S : Ix.St} {k : Nat} (h : (S k).b = true) : objs S (k + 1) = objs S k ++ [(k : Int)] := by simp [objs, List.range_succ, List.filter_append, h]
theorem objs_no {S : Ix.St} {k : Nat} (h : (S k).b = false) : objs S (k + 1) = objs S k := by simp [objs, List.range_succ, List.filter_append, h]
theorem objs_len (S : Ix.St) (n : Nat) : (objs S n).length ≤ n := by
  unfold objs
  rw [List.length_map]
  have := List.length_filter_le (fun k => (S k).b) (List.range n)
  simpa using this
theorem arr_size : (Tryd.prog.info? 33).map (·.size) = some 176 := by kernel_rfl
theorem extract_mid {p q r : List Value} {a n : Nat} (hp : p.length = a) (hq : q.length = n) : (p ++ q ++ r).toArray.extract a (a + n) = q.toArray := by
  subst hp hq
  rw [List.extract_toArray, List.extract_eq_take_drop, List.append_assoc, List.drop_left, Nat.add_sub_cancel_left, List.take_left]
theorem slot_index (S : Ix.St) (M : Nat → Value) {k : Nat} (hk : k < 16) (W : World) : (Instr.index 33 (.agg (ixP S M).toArray) (.int .i64 (k : Int))).run Tryd.prog W = .ok (spV (S k) (M k)) W := by
  obtain ⟨r, h1, -⟩ := rows_parts (m := 11) (f := fun j => spC (S j) (M j)) (fun _ => rfl) 16 hk
  have hl : (rows (fun j => spC (S j) (M j)) k).length = k * 11 := rows_length (m := 11) (fun _ => rfl) k
  have hx : (ixP S M).toArray.extract (k * 11) (k * 11 + 11) = (spC (S k) (M k)).toArray := by
    unfold ixP
    rw [h1]
    exact extract_mid hl rfl
  have hs : ∀ w, (sizeOf 32).run Tryd.prog w = .ok 11 w := fun w => by kernel_rfl
  have h2 : (0 : Int) ≤ (k : Int) ∧ (k : Int) < ((16 : Nat) : Int) := by omega
  generalize (ixP S M).toArray = cs at *
  simp [Instr.index, run_underlying Tryd.underlying33, run_underlying Tryd.underlying32, asIntOf, hs, part, isAgg, go_sem, hx, h2]
  exact if_pos hk
/-- where Objects stands -/
structure Obw (w wr : World) (S : Ix.St) (k m : Nat) (v : Value) : Prop where
  len : m = (objs S k).length
  row : wr.ownsRow w.heap.size 3 1 v m (nums .i64 (objs S k))
  below : Below w.heap.size w wr
set_option maxHeartbeats 4000000 in
theorem lxObjects_any {own : Nat → Prop} {w : World} {cs : List Value} {S : Ix.St} (h : LIx own w cs S) (hS : Ix.Ok S) :
    Calls Tryd.prog 29 #[.agg cs.toArray] w (NumsTo (objs S 16) w) := by
  obtain ⟨M, rfl, h1, h2⟩ := h
  have hix := fun k hk W => slot_index S M (k := k) hk W
  have hmo : ∀ k, k < 16 → ∃ mo, M k = .map mo := fun k hk => (h1 k hk).map
  have hcl := ixP_length S M
  have HRG : Hid ((w.alloc (.cells (ixP S M).toArray 35)).rangeAt w.heap.size 0 (ixP S M)) := Lib.hid (IxBox.range (heap_alloc_new w _))
  have HB : Hid (Below w.heap.size w (w.alloc (.cells (ixP S M).toArray 35))) := Lib.hid ((Below.refl _ w).alloc (Nat.le_refl _) _)
  generalize ixP S M = cs at *
  have HSZ : Hid ((Tryd.prog.info? 33).map (·.size) = some cs.length) := Lib.hid (by rw [hcl]; exact arr_size)
  have HIX := Lib.hid hix
  have HMO := Lib.hid hmo
  have HS := Lib.hid hS
  obtain ⟨i0, hi, hz0, hz1, hz2⟩ := info_parts int_infoS
  have HI0 := Lib.hid hi
  have HZ := Lib.hid hz0
  have HSI := Lib.hid hz1
  have HBY := Lib.hid hz2
  clear hi hz0 hz1 hz2 h1 h2 hix hmo hS hcl
  go_enter Tryd.func29, Tryd.ntmps29
  go_wp2_with (refine wpList_load_mid (by rfl) 33 (.tmp 6) (by rfl) w.heap.size 0 (by rfl) cs _ HRG.out Tryd.underlying33 (by rfl) HSZ.out ?_)
  go_loopw [3, 4, 5, 8] (fun v _ _ i wr => ∃ (k m : Nat) (A : Option Addr) (c : Nat), k ≤ 16 ∧ i = .int .i64 k ∧ v = .slice A m c ∧ Hid (Obw w wr S k m (.slice A m c))) (fun _ _ _ i _ => 16 - (intOf i).toNat)
  case atStart => exact ⟨0, 0, none, 0, by omega, rfl, rfl, Lib.hid ⟨rfl, ⟨rfl, .inl ⟨rfl, rfl⟩⟩, HB.out⟩⟩
  case round =>
    obtain ⟨k, m, A, c, hk, rfl, rfl, HO⟩ := hrel
    by_cases hlt : k < 16
    · obtain ⟨mo, hmo⟩ := HMO.out k hlt
      have hix := fun W => HIX.out k hlt W
      rw [hmo] at hix
      have cb := fun W => bound_any (HS.out k) (.map mo) W
      have d1 : decide ((k : Int) < 16) = true := decide_eq_true (by omega)
      have HY := Lib.hid (objs_yes (S := S) (k := k))
      have HN := Lib.hid (objs_no (S := S) (k := k))
      have HML : Hid (m ≤ 16) := Lib.hid (by rw [HO.out.len]; exact Nat.le_trans (objs_len S k) hk)
      generalize S k = s at *
      obtain ⟨sb, ⟨so, sg, stg, sln, stk⟩, ⟨s1, s2⟩, sl, fl, ⟨t1, t2⟩⟩ := s
      dsimp only at cb hix HY HN
      cases sb
      · have HN2 := Lib.hid (HN.out rfl)
        clear HN HY
        go_wp2_with (go_at_call 35; (with_reducible refine (cb _).mono ?_); rintro e w3 ⟨rfl, hw3⟩; have HB3 : Hid (Below wr.heap.size wr w3) := Lib.hid (by rw [hw3]; exact ((Below.refl _ wr).alloc (Nat.le_refl _) _).alloc (by simp) _); clear hw3)
        go_roundw
        case rel => exact ⟨k + 1, m, A, c, by omega, by go_num, rfl, Lib.hid ⟨by rw [HN2.out]; exact HO.out.len, by rw [HN2.out]; exact own_belowN HO.out.row HB3.out, HO.out.below.trans (HB3.out.mono HO.out.below.size)⟩⟩
        case measure => simp [intOf]; omega
      · have HY2 := Lib.hid (HY.out rfl)
        clear HN HY
        go_wp2_with (first
          | (go_at_call 35; (with_reducible refine (cb _).mono ?_); rintro e w3 ⟨rfl, hw3⟩; have hb3 : Below wr.heap.size wr w3 := (by rw [hw3]; exact ((Below.refl _ wr).alloc (Nat.le_refl _) _).alloc (by simp) _); have HB3 := Lib.hid (HO.out.below.trans (hb3.mono HO.out.below.size)); have HO3 := Lib.hid (own_belowN HO.out.row hb3); clear hw3 hb3)
          | (at_builtin; refine wpList_append_vals (o := ⟨some 17, _, _, _, _, _⟩) rfl (.tmp 14) (.tmp 16) 68 rfl w.heap.size 3 i0 _ 8 Tryd.underlying68 HI0.out HZ.out HSI.out HBY.out rfl _ m (nums .i64 (objs S k)) rfl (HO3.out.alloc _) (w3.heap.size + 1) (some ⟨w3.heap.size, 0, none⟩) 1 1 [.int .i64 (k : Int)] rfl (Vs.new w3 3 (0, 0) #[.int .i64 (k : Int)]) (by intro u hu; simp at hu; subst hu; rfl) (by have := HML.out; omega) (by have := HML.out; omega) (by have := HB3.out.size; simp; omega) ?_; intro v2 w4 HO4 HG4))
        obtain ⟨A2, c2, rfl, -, -⟩ := Vs.of_own HO4.out
        go_roundw
        case rel =>
          have hb4 := HB3.out.alloc HB3.out.size (.cells #[.int .i64 (k : Int)] 3)
          have ho := HO4.out
          rw [show [Value.int .i64 (k : Int)] = nums .i64 [(k : Int)] from rfl, nums_append, ← HY2.out] at ho
          exact ⟨k + 1, m + 1, A2, c2, by omega, by go_num, rfl, Lib.hid ⟨by rw [HY2.out, List.length_append, ← HO.out.len]; rfl, ho, hb4.grown HG4.out hb4.size (fun q hq => (HO3.out.lt q hq).1)⟩⟩
        case measure => simp [intOf]; omega
    · have d1 : decide ((k : Int) < 16) = false := decide_eq_false (by omega)
      obtain rfl : k = 16 := by omega
      go_wp2
      go_ret
      have ho := HO.out.row
      obtain ⟨A9, c9, e9, hvs, hcap⟩ := Vs.of_own ho
      injection e9 with e1 e2 e3
      subst e1 e3
      exact ⟨A, c, by rw [← HO.out.len]; rfl, by rw [← HO.out.len]; exact hvs, by rw [← HO.out.len]; exact hcap, HO.out.below⟩
end Go.Proofs.YtcmhodimkpkmbaaDoor
