/-
  The landed door: sixteen counts and how many Notes counted, seventeen cells.
-/
import Derived.Test.YtopkhmbgdhpgeaaAdLay
namespace Go.Proofs.Ytopkhmbgdhpgeaa
open Go.ChangeShapes Go.WideShapes Go.ChangeAt Go.RowKit
set_option maxRecDepth 100000

def doorC (s : Ad.St) : List Value := nums .i64 s.s ++ [.int .i64 s.n]
theorem doorC_length {s : Ad.St} (h : s.s.length = 16) : (doorC s).length = 17 := by simp [doorC, nums_length, h]
theorem doorC_cell (s : Ad.St) : ∀ u ∈ doorC s, u.oneCell' = true := by
  intro u hu
  rcases List.mem_append.1 hu with hu | hu
  · obtain ⟨x, _, rfl⟩ := List.mem_map.1 hu; rfl
  · rw [List.mem_singleton.1 hu]; rfl
theorem doorC_end {s : Ad.St} (h : s.s.length = 16) : (doorC s)[16]? = some (.int .i64 s.n) := by
  unfold doorC
  rw [List.getElem?_append_right (by rw [nums_length]; omega), nums_length, h]
  rfl
theorem doorC_at {s : Ad.St} (h : s.s.length = 16) {k : Nat} (hk : k < 16) : (doorC s)[k]? = some (.int .i64 (s.s.getD k 0)) := by
  unfold doorC
  rw [List.getElem?_append_left (by rw [nums_length]; omega), nums_at? _ _ (by omega), List.getD_eq_getElem?_getD, List.getElem?_eq_getElem (by omega)]
  rfl
theorem doorC_set {s : Ad.St} (h : s.s.length = 16) {k : Nat} (hk : k < 16) (y : Int) : (doorC s).set k (.int .i64 y) = doorC ⟨s.s.set k y, s.n⟩ := by
  unfold doorC
  rw [List.set_append_left _ _ (by rw [nums_length]; omega), nums_set]
theorem doorC_setN {s : Ad.St} (h : s.s.length = 16) (y : Int) : (doorC s).set 16 (.int .i64 y) = doorC ⟨s.s, y⟩ := by
  unfold doorC
  rw [List.set_append_right _ _ (by rw [nums_length]; omega), nums_length, h]
  rfl
theorem door_size : (Try.prog.info? 26).map (·.size) = some 17 := by kernel_rfl
theorem door_zero (W : World) : (zeroValue 26).run Try.prog W = .ok (.agg (doorC Ad.zero).toArray) W := by kernel_rfl
theorem door_may (o : Int) (w : World) : Calls Try.prog 11 #[.int .i64 o] w fun e w' => e = .returned (.bool (Ad.may o)) ∧ w = w' := by
  unfold Ad.may
  by_cases h1 : 0 ≤ o
  · by_cases h2 : o < 16
    · rw [decide_eq_true ⟨h1, by omega⟩]
      go_enter Try.func11, Try.ntmps11
      go_wp2
      go_ret
      exact ⟨rfl, rfl⟩
    · rw [decide_eq_false (fun h => h2 (by omega))]
      have e2 : decide (o < 16) = false := decide_eq_false h2
      go_enter Try.func11, Try.ntmps11
      go_wp2
      go_ret
      exact ⟨rfl, rfl⟩
  · rw [decide_eq_false (fun h => h1 h.1)]
    have e1 : decide (0 ≤ o) = false := decide_eq_false h1
    go_enter Try.func11, Try.ntmps11
    go_wp2
    go_ret
    exact ⟨rfl, rfl⟩
theorem door_count {s : Ad.St} (hl : s.s.length = 16) (w : World) : Calls Try.prog 9 #[.agg (doorC s).toArray] w fun e w' => e = .returned (.int .i64 s.n) ∧ Below w.heap.size w w' := by
  have hm := Bx.new w (doorC s) 26
  have hc : (w.alloc (.cells (doorC s).toArray 26)).cell? ⟨w.heap.size, 16, none⟩ = some (.int .i64 s.n) := by rw [hm.at, doorC_end hl]
  have HB : Hid (Below w.heap.size w (w.alloc (.cells (doorC s).toArray 26))) := Lib.hid ((Below.refl _ _).alloc (Nat.le_refl _) _)
  clear hm
  generalize doorC s = cs at *
  go_enter Try.func9, Try.ntmps9
  go_wp2
  go_ret
  exact ⟨rfl, HB.out⟩
theorem door_seen {s : Ad.St} (hl : s.s.length = 16) (o : Int) (w : World) : Calls Try.prog 8 #[.agg (doorC s).toArray, .int .i64 o] w fun e w' => e = .returned (.int .i64 (Ad.seen s o)) ∧ Below w.heap.size w w' := by
  have hm := Bx.new w (doorC s) 26
  have HB : Hid (Below w.heap.size w (w.alloc (.cells (doorC s).toArray 26))) := Lib.hid ((Below.refl _ _).alloc (Nat.le_refl _) _)
  have cm := door_may o
  unfold Ad.seen
  cases hmay : Ad.may o
  · rw [hmay] at cm
    rw [if_neg (by simp)]
    clear hm hmay
    generalize doorC s = cs at *
    go_enter Try.func8, Try.ntmps8
    go_wp2_with (go_at_call 11; (with_reducible refine (cm _).mono ?_); rintro e w1 ⟨rfl, rfl⟩; clear cm)
    go_ret
    exact ⟨rfl, HB.out⟩
  · rw [hmay] at cm
    rw [if_pos rfl]
    obtain ⟨h0, h1⟩ := Ad.may_iff.1 hmay
    obtain ⟨p, rfl⟩ := Int.eq_ofNat_of_zero_le h0
    have hp : p < 16 := by omega
    have hc : (w.alloc (.cells (doorC s).toArray 26)).cell? ⟨w.heap.size, p, none⟩ = some (.int .i64 (s.s.getD p 0)) := by rw [hm.at, doorC_at hl hp]
    have k1 : (p : Int) < 16 := by omega
    rw [show ((p : Int)).toNat = p by rfl]
    clear hm hmay h1 hp
    generalize doorC s = cs at *
    generalize s.s.getD p 0 = v at *
    go_enter Try.func8, Try.ntmps8
    go_wp2_with (go_at_call 11; (with_reducible refine (cm _).mono ?_); rintro e w1 ⟨rfl, rfl⟩; clear cm)
    go_ret
    exact ⟨rfl, HB.out⟩
/-- what a call with a door as its result makes of the variable -/
theorem res_door {U : World} {tm : Array Value} {b : Nat} {cs : List Value} {f : Func} {s : Nat} (hf : f.results = #[.cell s 26]) (h4 : tm.getD s undef = .pointer (some ⟨b, 0, none⟩)) (hr : U.rangeAt b 0 cs) (hl : cs.length = 17) :
    (results f tm).run Try.prog U = .ok (.agg cs.toArray) U := by
  have h5 : tm[s]?.getD undef = .pointer (some ⟨b, 0, none⟩) := by simpa using h4
  have hl := run_loadVar_mid (P := Try.prog) U b 0 26 cs _ hr Try.underlying26 (by rfl) (by rw [door_size, hl])
  simp [results, hf, h5, asAddr, hl]
/-- a door as it comes out of a variable -/
structure DoorOut (w W : World) (b : Nat) (cs : List Value) : Prop where
  there : W.there b 0 cs.toArray.size
  size : (Try.prog.info? 26).map (·.size) = some cs.toArray.size
  sizeL : (Try.prog.info? 26).map (·.size) = some cs.length
  one : cs.toArray.all (·.oneCell') = true
  range : (W.setCells b 0 cs).rangeAt b 0 cs
  len : cs.length = 17
  below : Below w.heap.size w (W.setCells b 0 cs)
theorem DoorOut.mk' {w W : World} {b : Nat} {s : Ad.St} {z : List Value} (hl : s.s.length = 16) (hz : z.length = 17) (hb : Bx W b 26 z) (hw : Below w.heap.size w W) (far : w.heap.size ≤ b) : DoorOut w W b (doorC s) := by
  have h1 := doorC_length hl
  refine ⟨hb.there (by simp [h1, hz]), by rw [door_size]; simp [h1], by rw [door_size, h1], all_oneCell_toArray (doorC_cell s), ?_, h1, below_sets _ _ _ _ far hw⟩
  have h3 := setCells_bx b 26 (doorC s) z [] [] W (by rw [h1, hz]) (by simpa using hb)
  have h4 : Bx (W.setCells b 0 (doorC s)) b 26 (doorC s) := by simpa using h3
  exact h4.range
theorem door_new (w : World) : Calls Try.prog 6 #[] w fun e w' => e = .returned (.agg (doorC Ad.zero).toArray) ∧ Below w.heap.size w w' := by
  have hz := door_zero
  have HQ := Lib.hid (DoorOut.mk' (w := w) (s := Ad.zero) (by simp [Ad.zero]) (doorC_length (by simp [Ad.zero])) (Bx.new w (doorC Ad.zero) 26) ((Below.refl _ w).alloc (Nat.le_refl _) _) (Nat.le_refl _))
  generalize doorC Ad.zero = cs at *
  go_enter Try.func6, Try.ntmps6
  go_wp2_with (refine wpList_store_mid (by rfl) 26 (.tmp 0) (.tmp 1) (by rfl) w.heap.size 0 cs.toArray (by rfl) (by rfl) HQ.out.there HQ.out.size HQ.out.one ?_; rw [List.toList_toArray])
  exact bodyPost_ret (res_door Try.results6 (by rfl) HQ.out.range HQ.out.len) rfl ⟨rfl, HQ.out.below⟩
/-- the door handed in, in a variable of the call's own, and beside it the one that is handed out -/
structure NtIn (w W : World) (s : Ad.St) : Prop where
  len : s.s.length = 16
  bx : Bx W w.heap.size 26 (doorC s)
  out : Bx W (w.heap.size + 1) 26 (doorC Ad.zero)
  below : Below w.heap.size w W
theorem NtIn.set {w W : World} {s : Ad.St} (h : NtIn w W s) {k : Nat} (hk : k < 16) (y : Int) : NtIn w (W.setCell ⟨w.heap.size, k, none⟩ (.int .i64 y)) ⟨s.s.set k y, s.n⟩ := by
  refine ⟨by simp [h.len], ?_, h.out.far (p := ⟨w.heap.size, k, none⟩) (by simp) _, h.below.setCell (Nat.le_refl _) _⟩
  have h1 := h.bx.set k (.int .i64 y)
  rwa [doorC_set h.len hk] at h1
theorem NtIn.setN {w W : World} {s : Ad.St} (h : NtIn w W s) (y : Int) : NtIn w (W.setCell ⟨w.heap.size, 16, none⟩ (.int .i64 y)) ⟨s.s, y⟩ := by
  refine ⟨h.len, ?_, h.out.far (p := ⟨w.heap.size, 16, none⟩) (by simp) _, h.below.setCell (Nat.le_refl _) _⟩
  have h1 := h.bx.set 16 (.int .i64 y)
  rwa [doorC_setN h.len] at h1
theorem NtIn.at {w W : World} {s : Ad.St} (h : NtIn w W s) {k : Nat} (hk : k < 16) : W.cell? ⟨w.heap.size, k, none⟩ = some (.int .i64 (s.s.getD k 0)) ∧ W.frozen? ⟨w.heap.size, k, none⟩ = false := by
  refine ⟨?_, h.bx.frozen k⟩
  rw [h.bx.at, doorC_at h.len hk]
theorem NtIn.atN {w W : World} {s : Ad.St} (h : NtIn w W s) : W.cell? ⟨w.heap.size, 16, none⟩ = some (.int .i64 s.n) ∧ W.frozen? ⟨w.heap.size, 16, none⟩ = false := by
  refine ⟨?_, h.bx.frozen 16⟩
  rw [h.bx.at, doorC_end h.len]
theorem NtIn.put {w W : World} {s : Ad.St} (h : NtIn w W s) : DoorOut w W (w.heap.size + 1) (doorC s) := DoorOut.mk' h.len (doorC_length (by simp [Ad.zero])) h.out h.below (by omega)
theorem NtIn.new (w : World) {s : Ad.St} (hl : s.s.length = 16) : NtIn w ((w.alloc (.cells (doorC s).toArray 26)).alloc (.cells (doorC Ad.zero).toArray 26)) s := by
  have h1 := Bx.new w (doorC s) 26
  have h2 := Bx.new (w.alloc (.cells (doorC s).toArray 26)) (doorC Ad.zero) 26
  have e : (w.alloc (.cells (doorC s).toArray 26)).heap.size = w.heap.size + 1 := by simp
  rw [e] at h2
  exact ⟨hl, h1.alloc _, h2, ((Below.refl _ w).alloc (Nat.le_refl _) _).alloc (by simp) _⟩
end Go.Proofs.Ytopkhmbgdhpgeaa
