/-
  The program's device: kept, New.
-/
import Derived.Test.YtgnncbbfbhipaaaFlashSmall
import Derived.Test.YtgnncbbfbhipaaaFlashRepeat
import Derived.Test.YtgnncbbfbhipaaaFour
import Derived.Laws.BitsAllLaws
namespace Go.Proofs.Ytgnncbbfbhipaaa
open Go.ChangeShapes Go.WideShapes Go.ChangeAt Go.RowKit Fl
set_option maxRecDepth 100000

theorem shift_64 (K i : Nat) (hK : K < 18446744073709551616) : K / 2 ^ min i 64 = K / 2 ^ i := by
  by_cases h : i ≤ 64
  · rw [Nat.min_eq_left h]
  · rw [Nat.min_eq_right (by omega), Nat.div_eq_of_lt (by omega), Nat.div_eq_of_lt]
    exact Nat.lt_of_lt_of_le hK (by rw [show (18446744073709551616 : Nat) = 2 ^ 64 by rfl]; exact Nat.pow_le_pow_right (by omega) (by omega))
theorem bit_of (K i : Nat) (hK : K < 18446744073709551616) : (bits BinOp.and IntKind.u64 ((K : Int) / 2 ^ min i 64) 1 == 1) = decide (K / 2 ^ i % 2 = 1) := by
  have e : (K : Int) / 2 ^ min i 64 = ((K / 2 ^ i : Nat) : Int) := by
    rw [← shift_64 K i hK]
    simp
  have h1 := u64_and_nat (K / 2 ^ i) 1 (Nat.lt_of_le_of_lt (Nat.div_le_self _ _) hK) (by omega)
  rw [Nat.and_one_is_mod] at h1
  rw [e, show (1 : Int) = ((1 : Nat) : Int) from rfl, h1]
  generalize K / 2 ^ i = x
  by_cases h : x % 2 = 1
  · rw [h]; rfl
  · have h0 : x % 2 = 0 := by omega
    rw [h0]; rfl
section
variable {k S P B db mb : Nat} {w w' : World} {v : Nat → Nat} {L : List Pg}
theorem made_at {u : Value} (h : w.heap[db]? = some (.cells #[.int .i64 S, .int .i64 P, .int .i64 B, .map (some mb), u] 84 (0, 0))) :
    Calls Try.prog 46 #[.pointer (some ⟨db, 0, none⟩)] w fun e w' => e = .returned (.bool true) ∧ w = w' := by
  have q1 := devNil
  have q2 := mapNil
  have c3 : w.cell? ⟨db, 3, none⟩ = some (.map (some mb)) := by simp [World.cell?, h]
  clear h
  go_enter Try.func46, Try.ntmps46
  go_wp2
  go_ret
  exact ⟨rfl, rfl⟩
theorem sync_at {u : Value} (h : w.heap[db]? = some (.cells #[.int .i64 S, .int .i64 P, .int .i64 B, .map (some mb), u] 84 (0, 0))) :
    Calls Try.prog 27 #[.pointer (some ⟨db, 0, none⟩)] w fun e w' => e = .returned (.tuple #[]) ∧ w.setCell ⟨db, 4, none⟩ nl = w' := by
  have hm := made_at h
  have c4 : w.cell? ⟨db, 4, none⟩ = some u := by simp [World.cell?, h]
  have f4 : w.frozen? ⟨db, 4, none⟩ = false := by simp [World.frozen?, h]
  clear h
  go_enter Try.func27, Try.ntmps27
  go_wp2_with (go_at_call 46; (with_reducible refine hm.mono ?_); rintro e w' ⟨rfl, rfl⟩)
  go_end0
  exact ⟨rfl, rfl⟩
set_option maxHeartbeats 2000000 in
theorem kept_at {u : Value} (h : w.heap[db]? = some (.cells #[.int .i64 S, .int .i64 P, .int .i64 B, .map (some mb), u] 84 (0, 0))) (K : Nat) (t c : Int) (i : Nat) (hK : K < 18446744073709551616) :
    Calls Try.prog 51 #[.pointer (some ⟨db, 0, none⟩), .agg #[.int .u64 K, .int .i64 t, .int .i64 c], .int .i64 i] w fun e w' => e = .returned (.int .i64 (keep B K t c i)) ∧ Below w.heap.size w w' := by
  have hb := below_new4 w (.cells #[.int .u64 K, .int .i64 t, .int .i64 c] 27)
  have hlt : db < w.heap.size := (Array.getElem?_eq_some_iff.1 h).1
  have h2 := (hb.block db hlt).trans h
  have c2 : (w.alloc (.cells #[.int .u64 K, .int .i64 t, .int .i64 c] 27)).cell? ⟨db, 2, none⟩ = some (.int .i64 B) := by simp [World.cell?, h2]
  clear h h2
  unfold keep
  by_cases ht : (i : Int) = t
  · rw [if_pos ht]
    have hte : ((i : Int) == t) = true := by simpa using ht
    obtain ⟨r, hr⟩ : ∃ r, r = (min (max c 0) (B : Int)).toNat := ⟨_, rfl⟩
    rw [← hr]
    have hv : (if (B : Int) < (if c < 0 then 0 else c) then (B : Int) else if c < 0 then 0 else c) = (r : Int) := by
      rw [hr]
      split <;> split <;> omega
    clear ht hr
    go_enter Try.func51, Try.ntmps51
    go_wp2
    go_region
    clear hv
    generalize (if c < 0 then (0 : Int) else c) = z
    go_wp2
    go_ret
    exact ⟨rfl, hb.drew⟩
  · rw [if_neg ht]
    have hte : ((i : Int) == t) = false := by simpa using ht
    have hbit := bit_of K i hK
    by_cases hk : K / 2 ^ i % 2 = 1
    · rw [decide_eq_true hk] at hbit
      rw [if_pos hk]
      clear ht hk
      go_enter Try.func51, Try.ntmps51
      go_wp2
      go_ret
      exact ⟨rfl, hb⟩
    · rw [decide_eq_false hk] at hbit
      rw [if_neg hk]
      clear ht hk
      go_enter Try.func51, Try.ntmps51
      go_wp2
      go_ret
      exact ⟨rfl, hb⟩

/-- a new device -/
def NewTo (k S P B : Nat) (w : World) (v : Nat → Nat) (e : Ending) (w' : World) : Prop :=
  ∃ db mb v', e = .returned (.tuple #[.pointer (some ⟨db, 0, none⟩), .int .i64 0]) ∧ w.heap.size ≤ db ∧ w.heap.size ≤ mb ∧ Dev w' v' k S P B db mb [] ∧ ∀ j, Stp j w w' v v'
theorem new_no (s p b : Int) (w : World) (h : shpB s p b = false) : Calls Try.prog 26 #[.agg #[.int .i64 s, .int .i64 p, .int .i64 b]] w fun e w' => e = .returned (.tuple #[.pointer none, .int .i64 1]) ∧ Below w.heap.size w w' := by
  have hb := below_new4 w (.cells #[.int .i64 s, .int .i64 p, .int .i64 b] 23)
  have hr := fun W => right_any s p b W
  rw [h] at hr
  go_enter Try.func26, Try.ntmps26
  go_wp2_with (go_at_call 47; (with_reducible refine (hr _).mono ?_); rintro e w1 ⟨rfl, hb1⟩)
  go_ret2
  exact ⟨rfl, hb.trans (hb1.mono hb.size)⟩
theorem Fl.Shp.ofB {S P B : Nat} (h : Shp S P B) : shpB S P B = true := by
  obtain ⟨a, b, c, d, e, f⟩ := h
  unfold shpB
  rw [decide_eq_true ⟨by omega, by omega⟩, decide_eq_true ⟨by omega, by omega⟩, decide_eq_true ⟨by omega, by omega⟩]
  rfl
theorem dev_born (hs : Shp S P B) (hf : Fr w v) (w1 : World) (hb : Below w.heap.size w w1) :
    NewTo k S P B w v (.returned (.tuple #[.pointer (some ⟨w1.heap.size + 1, 0, none⟩), .int .i64 0])) ((w1.alloc (.map #[] 0)).alloc (.cells #[.int .i64 S, .int .i64 P, .int .i64 B, .map (some w1.heap.size), nl] 84)) := by
  obtain ⟨o2, ho2⟩ : ∃ o, o = Obj.cells #[.int .i64 S, .int .i64 P, .int .i64 B, .map (some w1.heap.size), nl] 84 := ⟨_, rfl⟩
  rw [← ho2]
  have hb2 : Below w.heap.size w ((w1.alloc (.map #[] 0)).alloc o2) := (hb.alloc hb.size _).alloc (by have := hb.size; simp; omega) _
  have e1 : (w1.alloc (.map #[] 0)).heap.size = w1.heap.size + 1 := by simp
  have e2 : ((w1.alloc (.map #[] 0)).alloc o2).heap.size = w1.heap.size + 2 := by simp
  have hd : ((w1.alloc (.map #[] 0)).alloc o2).heap[w1.heap.size + 1]? = some o2 := by
    have := heap_alloc_new (w1.alloc (.map #[] 0)) o2
    rwa [e1] at this
  have hm : Mp ((w1.alloc (.map #[] 0)).alloc o2) w1.heap.size 0 (fun _ _ => none) := (Mp.made w1).kept (row := none) (World.grownBy_alloc _ _ _) (by simp)
  refine ⟨w1.heap.size + 1, w1.heap.size, Go.Proofs.Ytgnncbbfbhipaaa.paint (Go.Proofs.Ytgnncbbfbhipaaa.paint v (w1.heap.size + 1) k) w1.heap.size k, rfl, Nat.le_succ_of_le hb.size, hb.size, ?_, fun j => ?_⟩
  · refine ⟨hs, ⟨fun q hq => (nomatch hq), List.Pairwise.nil⟩, ?_, ?_, paint_same _ _ _, by omega, ⟨nl, by rw [ho2] at hd ⊢; exact hd, World.ownsRow_nil _ _ _ _, fun g hg => (nomatch hg)⟩, ⟨_, hm, fun _ _ => .inl ⟨rfl, rfl⟩⟩⟩
    · intro i hi
      rw [e2] at hi
      rw [paint_other (by omega), paint_other (by omega)]
      exact hf i (by have := hb.size; omega)
    · rw [paint_other (by omega), paint_same]
  · have hsz := hb.size
    exact ((Stp.below hb2 hf).paint k (by omega) (by omega)).paint k (by omega) (by omega)
theorem new_yes (hs : Shp S P B) (hf : Fr w v) : Calls Try.prog 26 #[.agg #[.int .i64 S, .int .i64 P, .int .i64 B]] w (NewTo k S P B w v) := by
  have hb := below_new4 w (.cells #[.int .i64 S, .int .i64 P, .int .i64 B] 23)
  have t3 := Three.new w (.int .i64 S) (.int .i64 P) (.int .i64 B) 23
  have hr := fun W => right_any S P B W
  rw [hs.ofB] at hr
  have hmm := @run_makeMap Try.prog
  go_enter Try.func26, Try.ntmps26
  go_wp2_with (go_at_call 47; (with_reducible refine (hr _).mono ?_); rintro e w1 ⟨rfl, hb1⟩; obtain ⟨_, k0, k1, k2, _⟩ := t3.below hb1)
  go_ret2
  exact dev_born hs hf w1 (hb.trans (hb1.mono hb.size))
end
end Go.Proofs.Ytgnncbbfbhipaaa
