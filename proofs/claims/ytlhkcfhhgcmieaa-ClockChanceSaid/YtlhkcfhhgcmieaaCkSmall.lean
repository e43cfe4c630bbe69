/-
  The landed ring: may, New, Len, find, with.
-/
import Derived.Test.YtlhkcfhhgcmieaaCkLay
import Derived.LoopTactic
import Derived.BigQuiet
import Derived.Deep.QuietTactic
import Derived.Deep.RegionHeld3
import Derived.Laws.Slices
namespace Go.Proofs.Ytlhkcfhhgcmieaa
open Go.ChangeShapes Go.WideShapes Go.ChangeAt Go.RowKit
set_option maxRecDepth 100000

theorem may_any (o : Int) (w : World) : Calls Try.prog 23 #[.int .i64 o] w fun e w' => e = .returned (.bool (Ck.may o)) ∧ w = w' := by
  unfold Ck.may
  by_cases h1 : 0 ≤ o
  · by_cases h2 : o < 16
    · rw [decide_eq_true ⟨h1, by omega⟩]
      go_enter Try.func23, Try.ntmps23
      go_wp2
      go_ret
      exact ⟨rfl, rfl⟩
    · rw [decide_eq_false (fun h => h2 (by omega))]
      have e2 : decide (o < 16) = false := decide_eq_false h2
      go_enter Try.func23, Try.ntmps23
      go_wp2
      go_ret
      exact ⟨rfl, rfl⟩
  · rw [decide_eq_false (fun h => h1 h.1)]
    have e1 : decide (0 ≤ o) = false := decide_eq_false h1
    go_enter Try.func23, Try.ntmps23
    go_wp2
    go_ret
    exact ⟨rfl, rfl⟩
theorem len_any {l : List Ck.Sit} (hl : l.length ≤ 16) (w : World) : Calls Try.prog 17 #[ringV l] w fun e w' => e = .returned (.int .i64 (l.length : Int)) ∧ Below w.heap.size w w' := by
  have hm := Bx.new w (ringC l) 28
  have hc : (w.alloc (.cells (ringC l).toArray 28)).cell? ⟨w.heap.size, 32, none⟩ = some (.int .i64 (l.length : Int)) := by rw [hm.at, ring_end hl]
  have HB : Hid (Below w.heap.size w (w.alloc (.cells (ringC l).toArray 28))) := Lib.hid ((Below.refl _ _).alloc (Nat.le_refl _) _)
  unfold ringV
  clear hm
  generalize ringC l = cs at *
  go_enter Try.func17, Try.ntmps17
  go_wp2
  go_ret
  exact ⟨rfl, HB.out⟩
/-- a variable for a ring, made and set -/
theorem ring_var {l : List Ck.Sit} (hl : l.length ≤ 16) (W : World) (z : List Value) (hz : z.length = 33) :
    (W.alloc (.cells z.toArray 28)).there W.heap.size 0 (ringC l).toArray.size ∧ Bx ((W.alloc (.cells z.toArray 28)).setCells W.heap.size 0 (ringC l)) W.heap.size 28 (ringC l) ∧ Below W.heap.size W ((W.alloc (.cells z.toArray 28)).setCells W.heap.size 0 (ringC l)) := by
  have h0 := Bx.new W z 28
  refine ⟨h0.there (by simp [ringC_length hl, hz]), ?_, below_sets _ _ 0 _ (Nat.le_refl _) ((Below.refl _ W).alloc (Nat.le_refl _) _)⟩
  have h1 := setCells_bx W.heap.size 28 (ringC l) z [] [] _ (by rw [ringC_length hl, hz]) (by simpa using h0)
  simpa using h1
theorem new_any (w : World) : Calls Try.prog 6 #[] w fun e w' => e = .returned (ringV []) ∧ Below w.heap.size w w' := by
  have hz := ring_zero
  obtain ⟨h1, h2, h3⟩ := ring_var (l := []) (by simp) w (ringC []) rfl
  have HT := Lib.hid h1
  have HR := Lib.hid h2
  have HB := Lib.hid h3
  have HSZ : Hid ((Try.prog.info? 28).map (·.size) = some (ringC []).toArray.size) := Lib.hid (by rw [ring_size]; rfl)
  have HO := Lib.hid (all_oneCell_toArray (ringC_cell []))
  have HL : Hid ((ringC []).length = 33) := Lib.hid rfl
  unfold ringV
  clear h1 h2 h3
  generalize ringC [] = cs at *
  go_enter Try.func6, Try.ntmps6
  go_wp2_with (refine wpList_store_mid (by rfl) 28 (.tmp 0) (.tmp 1) (by rfl) w.heap.size 0 cs.toArray (by rfl) (by rfl) HT.out HSZ.out HO.out ?_; rw [List.toList_toArray])
  exact bodyPost_ret (res_ring Try.results6 (by rfl) HR.out.range HL.out) rfl ⟨rfl, HB.out⟩
/-- what find answers -/
abbrev findV (l : List Ck.Sit) (o : Int) : Value := .tuple #[.int .i64 (if Ck.pos l o < l.length then (Ck.pos l o : Int) else 0), .bool (decide (Ck.pos l o < l.length))]
theorem arrP : Try.prog.underlying 26 = some (.array 16 25) := by kernel_rfl
theorem slice_row (b : Nat) {n : Nat} (hn : n ≤ 16) (w : World) : (Instr.sliceAt 26 (.pointer (some ⟨b, 0, none⟩)) none (some (.int .i64 (n : Int))) none).run Try.prog w = .ok (.slice (some ⟨b, 0, none⟩) n 16) w := by
  have hl : Try.prog.arrayLen 26 = 16 := by kernel_rfl
  have he : Try.prog.elem 26 = 25 := by kernel_rfl
  have hz : (sizeOf 25).run Try.prog w = .ok 2 w := by kernel_rfl
  have h := run_sliceAt_array_h (P := Try.prog) w 26 (a := ⟨b, 0, none⟩) (ht := by rw [hl, he]; exact arrP) .i64 (n : Int) (by omega) (by rw [hl]; omega)
  rw [h, he, hz, hl]
  simp [Result.andThen, slicedAt, Addr.add]
set_option maxHeartbeats 1000000 in
theorem find_any {l : List Ck.Sit} (hl : l.length ≤ 16) (o : Int) (w : World) : Calls Try.prog 20 #[ringV l, .int .i64 o] w fun e w' => e = .returned (findV l o) ∧ Below w.heap.size w w' := by
  have hm := Bx.new w (ringC l) 28
  have hc : (w.alloc (.cells (ringC l).toArray 28)).cell? ⟨w.heap.size, 32, none⟩ = some (.int .i64 (l.length : Int)) := by rw [hm.at, ring_end hl]
  have hb0 : Below w.heap.size w (w.alloc (.cells (ringC l).toArray 28)) := (Below.refl _ _).alloc (Nat.le_refl _) _
  have hlt : w.heap.size < (w.alloc (.cells (ringC l).toArray 28)).heap.size := by simp
  have HG : Hid (∀ k (h : k < l.length), (ringC l)[k * 2]? = some (.int .i64 l[k].1) ∧ (ringC l)[k * 2 + 1]? = some (.bool l[k].2)) := Lib.hid fun k h => ring_get h
  have HM := Lib.hid hm
  have HB0 := Lib.hid hb0
  have HLT := Lib.hid hlt
  have hsl := slice_row w.heap.size hl
  unfold ringV
  clear hm hb0 hlt
  generalize ringC l = cs at *
  obtain ⟨n, hn⟩ : ∃ n, n = l.length := ⟨_, rfl⟩
  rw [← hn] at hc hsl
  have HN := Lib.hid hn
  have HL := Lib.hid hl
  clear hn hl
  obtain ⟨wq, hwq⟩ : ∃ wq, wq = w.alloc (.cells cs.toArray 28) := ⟨_, rfl⟩
  rw [← hwq] at hc HM HB0 HLT
  have HQ := Lib.hid hwq
  clear hwq
  have hc' : (w.alloc (.cells cs.toArray 28)).cell? ⟨w.heap.size, 32, none⟩ = some (.int .i64 (n : Int)) := by rw [← HQ.out]; exact hc
  go_enter Try.func20, Try.ntmps20
  go_wp2
  rw [← HQ.out]
  clear hc'
  go_loopw [13] (fun i wr => ∃ k : Nat, k ≤ n ∧ i = .int .i64 k ∧ Hid (k ≤ Ck.pos l o) ∧ Hid (Below wq.heap.size wq wr)) (fun i _ => n - (intOf i).toNat)
  case atStart => exact ⟨0, by omega, rfl, Lib.hid (Nat.zero_le _), Lib.hid (Below.refl _ _)⟩
  case round =>
    obtain ⟨k, hk, rfl, HP, HB⟩ := hrel
    by_cases hlt : k < n
    · have hkl : k < l.length := by rw [← HN.out]; exact hlt
      obtain ⟨x, hx⟩ : ∃ x, x = l[k].1 := ⟨_, rfl⟩
      obtain ⟨y, hy⟩ : ∃ y, y = l[k].2 := ⟨_, rfl⟩
      have hbx := HM.out.below HB.out HLT.out
      have e1 : wr.cell? ⟨w.heap.size, k * 2, none⟩ = some (.int .i64 x) := by rw [hbx.at, (HG.out k hkl).1, hx]
      have e2 : wr.cell? ⟨w.heap.size, k * 2 + 1, none⟩ = some (.bool y) := by rw [hbx.at, (HG.out k hkl).2, hy]
      have hkn : k < 16 := by have := HL.out; omega
      have HBE := Lib.hid (HB0.out.trans (HB.out.mono HB0.out.size))
      by_cases hxo : x = o
      · have hpos : Ck.pos l o = k := Ck.pos_hit hkl HP.out (by rw [← hx]; exact hxo)
        have HV : Hid (findV l o = .tuple #[.int .i64 (k : Int), .bool true]) := Lib.hid (by unfold findV; rw [hpos, if_pos hkl, decide_eq_true hkl])
        have ht : (x == o) = true := by simp [hxo]
        clear hbx hx hy hpos hxo hkl
        go_wp2
        go_ret2
        exact ⟨by rw [HV.out]; rfl, (HBE.out.alloc HBE.out.size _)⟩
      · have HP2 := Lib.hid (Ck.pos_miss hkl HP.out (by rw [← hx]; exact hxo))
        have ht : (x == o) = false := by simp [hxo]
        clear hbx hx hy hxo hkl
        go_wp2
        go_roundw
        case rel => exact ⟨k + 1, by omega, by go_num, HP2, Lib.hid (HB.out.alloc HB.out.size _)⟩
        case measure => simp [intOf]; omega
    · have HV : Hid (findV l o = .tuple #[.int .i64 0, .bool false]) := Lib.hid (by
        have h1 := HP.out
        have h2 := HN.out
        unfold findV
        rw [if_neg (by omega), decide_eq_false (by omega)])
      have HBE := Lib.hid (HB0.out.trans (HB.out.mono HB0.out.size))
      go_wp2
      go_ret2
      exact ⟨by rw [HV.out]; rfl, HBE.out⟩
end Go.Proofs.Ytlhkcfhhgcmieaa
