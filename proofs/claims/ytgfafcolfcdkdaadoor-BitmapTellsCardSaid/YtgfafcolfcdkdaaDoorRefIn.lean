/-
  Contracts of the document's In (whether a number is among others) and Sorted (those that may be, rising).
-/
import Derived.Test.YtgfafcolfcdkdaaDoorChecked
import Derived.Test.YtgfafcolfcdkdaaDoorIntVals
import Derived.Test.YtgfafcolfcdkdaaDoorBitMath
import Derived.LoopTactic
import Derived.Lib.Hide
import Derived.IntWalk
namespace Go.Proofs.YtgfafcolfcdkdaaDoor
open Go.ChangeShapes Go.WideShapes Go.ChangeAt Go.RowKit
set_option maxRecDepth 100000

theorem in01_any (A : Option Addr) (n c : Nat) (x : Int) (B : Nat) (l : List Int) (w : World) (h : Vs w B A n (nums .i64 l)) (hn : n ≤ 9223372036854775807) :
    Calls Tryd.prog 10 #[.slice A n c, .int .i64 x] w fun e w' => e = .returned (.bool (decide (x ∈ l))) ∧ w = w' := by
  have HL : Hid ((nums .i64 l).length = n) := Lib.hid h.1
  have C1 := Lib.hid h.2
  clear h
  go_enter Tryd.func10, Tryd.ntmps10
  go_wp2
  go_loopw [9] (fun i wr => ∃ k : Nat, k ≤ n ∧ i = .int .i64 k ∧ Hid (x ∉ l.take k) ∧ wr = w) (fun i _ => n - (intOf i).toNat)
  case atStart => exact ⟨0, by omega, rfl, Lib.hid (by simp), rfl⟩
  case round =>
    obtain ⟨k, hk, rfl, HX, rfl⟩ := hrel
    by_cases hlt : k < n
    · obtain ⟨b1, o1, rfl, hB1, hc1⟩ := C1.out (by omega)
      have hkl : k < (nums .i64 l).length := by rw [HL.out]; exact hlt
      have hkl' : k < l.length := by rw [← nums_length]; exact hkl
      have e1 := hc1 k hkl
      rw [nums_get .i64 l k hkl hkl'] at e1
      obtain ⟨y, hy⟩ : ∃ y, y = l[k] := ⟨_, rfl⟩
      rw [← hy] at e1
      by_cases hyx : y = x
      · have HIN : Hid (decide (x ∈ l) = true) := Lib.hid (decide_eq_true (by rw [← hyx, hy]; exact List.getElem_mem hkl'))
        have ht : (y == x) = true := by simp [hyx]
        clear hc1 C1 HL hy hkl hkl' hyx HX
        go_wp2
        go_ret
        exact ⟨by rw [HIN.out]; rfl, rfl⟩
      · have HX2 : Hid (x ∉ l.take (k + 1)) := Lib.hid (by
          rw [List.take_succ_eq_append_getElem hkl', List.mem_append, ← hy]
          rintro (h | h)
          · exact HX.out h
          · exact hyx (List.mem_singleton.1 h).symm)
        have ht : (y == x) = false := by simp [hyx]
        clear hc1 C1 HL hy hkl hkl' hyx HX
        go_wp2
        go_roundw
        case rel => exact ⟨k + 1, by omega, by go_num, HX2, by first | rfl | trivial⟩
        case measure => simp [intOf]; omega
    · have HIN : Hid (decide (x ∈ l) = false) := Lib.hid (decide_eq_false (by
        have h := HX.out
        rwa [List.take_of_length_le (by have := HL.out; rw [nums_length] at this; omega)] at h))
      go_wp2
      go_ret
      exact ⟨by rw [HIN.out]; rfl, rfl⟩
theorem int_infoS : (Tryd.prog.info? 3).map (fun i => (i.zero, i.size, i.bytes)) = some (some (.int .i64 0), 1, 8) := by kernel_rfl
/-- numbers, as a row of the call's own -/
def NumsTo (l : List Int) (w : World) (e : Ending) (w' : World) : Prop :=
  ∃ A c, e = .returned (.slice A l.length c) ∧ Vs w' w'.heap.size A l.length (nums .i64 l) ∧ l.length ≤ c ∧ Below w.heap.size w w'
theorem nums_one (l : List Int) : ∀ u ∈ nums .i64 l, u.oneCell' = true := by
  intro u hu
  obtain ⟨x, _, rfl⟩ := List.mem_map.1 hu
  rfl
set_option maxHeartbeats 2000000 in
theorem sorted_any (A : Option Addr) (n c : Nat) (B : Nat) (l : List Int) (w : World) (h : Vs w B A n (nums .i64 l)) (hB : B ≤ w.heap.size) (hn : n ≤ 100000) :
    Calls Tryd.prog 8 #[.slice A n c] w (NumsTo (Bm.srt l 4097) w) := by
  have HL : Hid (l.length = n) := Lib.hid (by have := h.1; rwa [nums_length] at this)
  have HC := Lib.hid h
  have HBW := Lib.hid hB
  clear h hB
  obtain ⟨i0, hi, hz0, hz1, hz2⟩ := info_parts int_infoS
  have HI0 := Lib.hid hi
  have HZ := Lib.hid hz0
  have HSZ := Lib.hid hz1
  have HBY := Lib.hid hz2
  clear hi hz0 hz1 hz2
  go_enter Tryd.func8, Tryd.ntmps8
  go_wp2
  go_loopw [3, 4] (fun v i wr => ∃ (k : Nat) (A' : Option Addr) (c' : Nat) (m : Nat), k ≤ 4097 ∧ i = .int .i64 k ∧ v = .slice A' m c' ∧ Hid (m = (Bm.srt l k).length) ∧ Hid (wr.ownsRow w.heap.size 3 1 (.slice A' m c') m (nums .i64 (Bm.srt l k))) ∧ Hid (Below w.heap.size w wr)) (fun _ i _ => 4097 - (intOf i).toNat)
  case atStart => exact ⟨0, none, 0, 0, by omega, rfl, rfl, Lib.hid rfl, Lib.hid ⟨rfl, .inl ⟨rfl, rfl⟩⟩, Lib.hid (Below.refl _ _)⟩
  case round =>
    obtain ⟨k, A', c', m, hk, rfl, rfl, HM, HO, HB⟩ := hrel
    by_cases h1 : k ≤ 4096
    · by_cases h2 : m < n
      · have ci := in01_any A n c (k : Int) B l wr (HC.out.below (HB.out.mono HBW.out)) (by omega)
        have d1 : decide ((k : Int) ≤ 4096) = true := decide_eq_true (by omega)
        have d2 : decide ((m : Int) < (n : Int)) = true := decide_eq_true (by omega)
        by_cases hin : (k : Int) ∈ l
        · rw [decide_eq_true hin] at ci
          have HS := Lib.hid (Bm.srt_yes hin)
          clear hin
          go_wp2_with (first
            | (go_at_call 10; (with_reducible refine ci.mono ?_); rintro e w2 ⟨rfl, rfl⟩; clear ci)
            | (at_builtin; refine wpList_append_vals (o := ⟨some 22, _, _, _, _, _⟩) rfl (.tmp 19) (.tmp 21) 22 rfl w.heap.size 3 i0 _ 8 Tryd.underlying22 HI0.out HZ.out HSZ.out HBY.out rfl _ m (nums .i64 (Bm.srt l k)) rfl (HO.out.alloc _) (wr.heap.size + 1) (some ⟨wr.heap.size, 0, none⟩) 1 1 [.int .i64 (k : Int)] rfl (Vs.new wr 3 (0, 0) #[.int .i64 (k : Int)]) (by intro u hu; simp at hu; subst hu; rfl) (by omega) (by omega) (by have := HB.out.size; simp; omega) ?_; intro v2 w2 HO2 HG2))
          obtain ⟨A2, c2, rfl, -, -⟩ := Vs.of_own HO2.out
          go_roundw
          case rel =>
            have hb2 := HB.out.alloc HB.out.size (.cells #[.int .i64 (k : Int)] 3)
            have ho := HO2.out
            rw [show [Value.int .i64 (k : Int)] = nums .i64 [(k : Int)] from rfl, nums_append, ← HS.out] at ho
            exact ⟨k + 1, A2, c2, m + 1, by omega, by go_num, rfl, Lib.hid (by rw [HS.out, List.length_append, ← HM.out]; rfl), Lib.hid ho, Lib.hid (hb2.grown HG2.out hb2.size (fun q hq => (HO.out.lt q hq).1))⟩
          case measure => simp [intOf]; omega
        · rw [decide_eq_false hin] at ci
          have HS := Lib.hid (Bm.srt_no hin)
          clear hin
          go_wp2_with (go_at_call 10; (with_reducible refine ci.mono ?_); rintro e w2 ⟨rfl, rfl⟩; clear ci)
          go_roundw
          case rel => exact ⟨k + 1, A', c', m, by omega, by go_num, rfl, Lib.hid (by rw [HS.out]; exact HM.out), Lib.hid (by rw [HS.out]; exact HO.out), HB⟩
          case measure => simp [intOf]; omega
      · have d1 : decide ((k : Int) ≤ 4096) = true := decide_eq_true (by omega)
        have d2 : decide ((m : Int) < (n : Int)) = false := decide_eq_false (by omega)
        have HS : Hid (Bm.srt l 4097 = Bm.srt l k) := Lib.hid (Bm.srt_full (by rw [HL.out, ← HM.out]; omega) 4097 hk)
        go_wp2
        go_ret
        rw [HS.out]
        obtain ⟨A2, c2, e2, hv, hc⟩ := Vs.of_own HO.out
        injection e2 with e2 _ e3
        subst e2 e3
        have hm := HM.out
        subst hm
        exact ⟨A', c', rfl, hv, hc, HB.out⟩
    · have d1 : decide ((k : Int) ≤ 4096) = false := decide_eq_false (by omega)
      have HS : Hid (Bm.srt l 4097 = Bm.srt l k) := Lib.hid (by rw [show k = 4097 by omega])
      go_wp2
      go_ret
      rw [HS.out]
      obtain ⟨A2, c2, e2, hv, hc⟩ := Vs.of_own HO.out
      injection e2 with e2 _ e3
      subst e2 e3
      have hm := HM.out
      subst hm
      exact ⟨A', c', rfl, hv, hc, HB.out⟩
end Go.Proofs.YtgfafcolfcdkdaaDoor
