/-
  The landed ring: All; the example.
-/
import Derived.Test.YtlhkcfhhgcmieaaCkAdd
namespace Go.Proofs.Ytlhkcfhhgcmieaa
open Go.ChangeShapes Go.WideShapes Go.ChangeAt Go.RowKit
set_option maxRecDepth 100000

set_option maxHeartbeats 1000000 in
theorem all_any {l : List Ck.Sit} (hl : l.length ≤ 16) (w : World) : Calls Try.prog 16 #[ringV l] w (NumsTo (l.map (·.1)) w) := by
  have hm := Bx.new w (ringC l) 28
  have hc : (w.alloc (.cells (ringC l).toArray 28)).cell? ⟨w.heap.size, 32, none⟩ = some (.int .i64 (l.length : Int)) := by rw [hm.at, ring_end hl]
  have hb0 : Below w.heap.size w (w.alloc (.cells (ringC l).toArray 28)) := (Below.refl _ _).alloc (Nat.le_refl _) _
  have hlt : w.heap.size < (w.alloc (.cells (ringC l).toArray 28)).heap.size := by simp
  have HG : Hid (∀ k (h : k < l.length), (ringC l)[k * 2]? = some (.int .i64 l[k].1) ∧ (ringC l)[k * 2 + 1]? = some (.bool l[k].2)) := Lib.hid fun k h => ring_get h
  have HM := Lib.hid hm
  have HB0 := Lib.hid hb0
  have HLT := Lib.hid hlt
  have hsl := slice_row w.heap.size hl
  obtain ⟨i0, hi, hz0, hz1, hz2⟩ := info_parts int_infoS
  have HI0 := Lib.hid hi
  have HZ := Lib.hid hz0
  have HSZ := Lib.hid hz1
  have HBY := Lib.hid hz2
  unfold ringV
  clear hm hb0 hlt hi hz0 hz1 hz2
  generalize ringC l = cs at *
  obtain ⟨n, hn⟩ : ∃ n, n = l.length := ⟨_, rfl⟩
  rw [← hn] at hc hsl
  have HN := Lib.hid hn
  have HL := Lib.hid hl
  clear hn hl
  obtain ⟨wq, hwq⟩ : ∃ wq, wq = w.alloc (.cells cs.toArray 28) := ⟨_, rfl⟩
  rw [← hwq] at hc HM HB0 HLT
  have HQ := Lib.hid hwq
  clear hwq
  have hc' : (w.alloc (.cells cs.toArray 28)).cell? ⟨w.heap.size, 32, none⟩ = some (.int .i64 (n : Int)) := by rw [← HQ.out]; exact hc
  go_enter Try.func16, Try.ntmps16
  go_wp2
  rw [← HQ.out]
  clear hc'
  go_loopw [3, 11] (fun v i wr => ∃ (k : Nat) (A' : Option Addr) (c' : Nat), k ≤ n ∧ i = .int .i64 k ∧ v = .slice A' k c' ∧ Hid (wr.ownsRow wq.heap.size 3 1 (.slice A' k c') k (nums .i64 ((l.map (·.1)).take k))) ∧ Hid (Below wq.heap.size wq wr)) (fun _ i _ => n - (intOf i).toNat)
  case atStart => exact ⟨0, none, 0, by omega, rfl, rfl, Lib.hid ⟨rfl, .inl ⟨rfl, rfl⟩⟩, Lib.hid (Below.refl _ _)⟩
  case round =>
    obtain ⟨k, A', c', hk, rfl, rfl, HO, HB⟩ := hrel
    by_cases hlt : k < n
    · have hkl : k < l.length := by rw [← HN.out]; exact hlt
      obtain ⟨x, hx⟩ : ∃ x, x = l[k].1 := ⟨_, rfl⟩
      obtain ⟨y, hy⟩ : ∃ y, y = l[k].2 := ⟨_, rfl⟩
      have hbx := HM.out.below HB.out HLT.out
      have e1 : wr.cell? ⟨w.heap.size, k * 2, none⟩ = some (.int .i64 x) := by rw [hbx.at, (HG.out k hkl).1, hx]
      have e2 : wr.cell? ⟨w.heap.size, k * 2 + 1, none⟩ = some (.bool y) := by rw [hbx.at, (HG.out k hkl).2, hy]
      have hkn : k < 16 := by have := HL.out; omega
      have HS : Hid (nums .i64 ((l.map (·.1)).take k) ++ [.int .i64 x] = nums .i64 ((l.map (·.1)).take (k + 1))) := Lib.hid (by
        rw [List.take_succ_eq_append_getElem (by simpa using hkl), ← nums_append, List.getElem_map, ← hx]
        rfl)
      have HBA := Lib.hid (HB.out.alloc HB.out.size (.cells #[.int .i64 x, .bool y] 25))
      have HVN : Hid (Vs ((wr.alloc (.cells #[.int .i64 x, .bool y] 25)).alloc (.cells #[.int .i64 x] 3)) (wr.heap.size + 2) (some ⟨wr.heap.size + 1, 0, none⟩) 1 [.int .i64 x]) := Lib.hid (by
        have h := Vs.new (wr.alloc (.cells #[.int .i64 x, .bool y] 25)) 3 (0, 0) #[.int .i64 x]
        simpa using h)
      clear hbx hx hy hkl
      go_wp2_with (at_builtin; refine wpList_append_vals (o := ⟨some 19, _, _, _, _, _⟩) rfl (.tmp 15) (.tmp 18) 42 rfl wq.heap.size 3 i0 _ 8 Try.underlying42 HI0.out HZ.out HSZ.out HBY.out rfl _ k (nums .i64 ((l.map (·.1)).take k)) rfl ((HO.out.alloc _).alloc _) (wr.heap.size + 2) (some ⟨wr.heap.size + 1, 0, none⟩) 1 1 [.int .i64 x] rfl HVN.out (by intro u hu; simp at hu; subst hu; rfl) (by omega) (by omega) (by have := HB.out.size; simp; omega) ?_; intro v2 w2 HO2 HG2)
      obtain ⟨A2, c2, rfl, -, -⟩ := Vs.of_own HO2.out
      go_roundw
      case rel =>
        have hb2 := HBA.out.alloc HBA.out.size (.cells #[.int .i64 x] 3)
        have ho := HO2.out
        rw [HS.out] at ho
        exact ⟨k + 1, A2, c2, by omega, by go_num, rfl, Lib.hid ho, Lib.hid (hb2.grown HG2.out hb2.size (fun q hq => (HO.out.lt q hq).1))⟩
      case measure => simp [intOf]; omega
    · have HBE := Lib.hid (HB0.out.trans (HB.out.mono HB0.out.size))
      have hkn : k = n := by omega
      have HE : Hid ((l.map (·.1)).take k = l.map (·.1) ∧ (l.map (·.1)).length = k) := Lib.hid (by
        have := HN.out
        exact ⟨List.take_of_length_le (by rw [List.length_map]; omega), by rw [List.length_map]; omega⟩)
      clear hkn
      go_wp2
      go_ret
      obtain ⟨A9, c9, e9, hv9, hn9⟩ := Vs.of_own HO.out
      injection e9 with e9 _ e8
      subst e9 e8
      rw [HE.out.1] at hv9
      exact ⟨A', c', by rw [HE.out.2]; rfl, by rw [HE.out.2]; exact hv9, by rw [HE.out.2]; exact hn9, HBE.out⟩
set_option maxHeartbeats 1000000 in
theorem awake_any (w : World) : Calls Try.prog 5 #[] w fun e w' => e = .returned (.bool true) ∧ Below w.heap.size w w' := by
  have o1 : Ck.Ok [] := Ck.Ok.nil
  have k1 : ∀ W, Calls Try.prog 13 #[.agg (ringC []).toArray, .int .i64 1] W fun e w' => e = .returned (.agg (ringC [(1, false)]).toArray) ∧ Below W.heap.size W w' := fun W => add_any o1 1 W
  have k2 : ∀ W, Calls Try.prog 13 #[.agg (ringC [(1, false)]).toArray, .int .i64 2] W fun e w' => e = .returned (.agg (ringC [(1, false), (2, false)]).toArray) ∧ Below W.heap.size W w' := fun W => add_any (Ck.Ok.add o1 1) 2 W
  have k3 : ∀ W, Calls Try.prog 8 #[.agg (ringC [(1, false), (2, false)]).toArray, .int .i64 1] W fun e w' => e = .returned (.agg (ringC [(1, true), (2, false)]).toArray) ∧ Below W.heap.size W w' := fun W => touch_any (l := [(1, false), (2, false)]) (by simp) 1 W
  have k4 : ∀ W, Calls Try.prog 11 #[.agg (ringC [(1, true), (2, false)]).toArray] W fun e w' => e = .returned (.tuple #[.int .i64 2, .agg (ringC [(2, false), (1, false)]).toArray, .bool true]) ∧ Below W.heap.size W w' := fun W => victim_any (l := [(1, true), (2, false)]) (by simp) W
  have kn : ∀ W, Calls Try.prog 6 #[] W fun e w' => e = .returned (.agg (ringC []).toArray) ∧ Below W.heap.size W w' := new_any
  have hz := ring_zero
  have hl5 : (ringC [(2, false), (1, false)]).length = 33 := rfl
  have HS : Hid ((Try.prog.info? 28).map (·.size) = some (ringC [(2, false), (1, false)]).toArray.size) := Lib.hid (by rw [ring_size]; simp [hl5])
  have HO := Lib.hid (all_oneCell_toArray (ringC_cell [(2, false), (1, false)]))
  have HV : Hid (∀ W : World, (W.alloc (.cells (ringC []).toArray 28)).there W.heap.size 0 (ringC [(2, false), (1, false)]).toArray.size ∧ Below W.heap.size W ((W.alloc (.cells (ringC []).toArray 28)).setCells W.heap.size 0 (ringC [(2, false), (1, false)]))) := Lib.hid fun W => by
    obtain ⟨h1, -, h3⟩ := ring_var (l := [(2, false), (1, false)]) (by simp) W (ringC []) rfl
    exact ⟨h1, h3⟩
  clear hl5 o1
  generalize ringC [(2, false), (1, false)] = c5 at *
  generalize ringC [(1, true), (2, false)] = c4 at *
  generalize ringC [(1, false), (2, false)] = c3 at *
  generalize ringC [(1, false)] = c2 at *
  generalize ringC [] = z0 at *
  go_enter Try.func5, Try.ntmps5
  go_wp2_with (first
    | (go_at_call 6; (with_reducible refine (kn _).mono ?_); rintro e w1 ⟨rfl, hb⟩; have HB := Lib.hid hb; clear hb)
    | (go_at_call 13; (first | ((with_reducible refine (k1 _).mono ?_); rintro e w2 ⟨rfl, hb⟩) | ((with_reducible refine (k2 _).mono ?_); rintro e w3 ⟨rfl, hb⟩)); replace HB := Lib.hid (HB.out.trans (hb.mono HB.out.size)); clear hb)
    | (go_at_call 8; (with_reducible refine (k3 _).mono ?_); rintro e w4 ⟨rfl, hb⟩; replace HB := Lib.hid (HB.out.trans (hb.mono HB.out.size)); clear hb)
    | (go_at_call 11; (with_reducible refine (k4 _).mono ?_); rintro e w5 ⟨rfl, hb⟩; replace HB := Lib.hid (HB.out.trans (hb.mono HB.out.size)); have HV5 := Lib.hid (HV.out w5); clear hb)
    | (refine wpList_store_mid (by rfl) 28 (.tmp 2) (.tmp 11) (by rfl) w5.heap.size 0 c5.toArray (by rfl) (by rfl) HV5.out.1 HS.out HO.out ?_; rw [List.toList_toArray]))
  go_ret
  exact ⟨rfl, HB.out.trans (HV5.out.2.mono HB.out.size)⟩
end Go.Proofs.Ytlhkcfhhgcmieaa
