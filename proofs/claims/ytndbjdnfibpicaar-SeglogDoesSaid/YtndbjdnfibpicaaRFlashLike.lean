/-
  The law's Like: two devices that are alike.
-/
import Derived.Test.YtndbjdnfibpicaaRFlashRefWrite
import Derived.Test.YtndbjdnfibpicaaRFlashErase
import Derived.Test.YtndbjdnfibpicaaRMBytes
import Derived.Test.YtndbjdnfibpicaaRFlashRead
namespace Go.Proofs.YtndbjdnfibpicaaR
open Go.ChangeShapes Go.WideShapes Go.ChangeAt Go.RowKit Fl
set_option maxRecDepth 100000

section
variable {k k2 S P B db mb xb : Nat} {w : World} {v v2 : Nat → Nat} {M : List Pg}
set_option maxHeartbeats 4000000 in
theorem like_any (hd : Dev w v k S P B db mb M) (hr : Rdv w v2 k2 S P B xb M) (hM : M.length ≤ 100000) :
    Calls Try.prog 11 #[.pointer (some ⟨db, 0, none⟩), .pointer (some ⟨xb, 0, none⟩)] w fun e w' => e = .returned (.bool true) ∧ Below w.heap.size w w' := by
  have HD := Lib.hid hd
  have HR := Lib.hid hr
  have HC : Hid (∀ W, Below w.heap.size w W → W.cell? ⟨xb, 0, none⟩ = some (.int .i64 S) ∧ W.cell? ⟨xb, 1, none⟩ = some (.int .i64 P) ∧ W.cell? ⟨xb, 2, none⟩ = some (.int .i64 B)) := Lib.hid fun W hb => by
    obtain ⟨u, Q, -, c0, c1, c2, -⟩ := (HR.out.below hb).four
    exact ⟨c0, c1, c2⟩
  have hbd : Below w.heap.size w w.drew := (Below.refl _ _).drew
  have HP0 := Lib.hid (HC.out _ hbd)
  have cs := shape_any (HD.out.below hbd)
  obtain ⟨c0, c1, c2⟩ := HC.out _ (Below.refl _ _)
  have HSH := Lib.hid hd.shp
  clear hd hr
  go_enter Try.func11, Try.ntmps11
  go_wp2
  go_region_held3 (fun W => W.cell? ⟨xb, 0, none⟩ = some (.int .i64 S) ∧ W.cell? ⟨xb, 1, none⟩ = some (.int .i64 P) ∧ W.cell? ⟨xb, 2, none⟩ = some (.int .i64 B))
    (first | exact HP0.out | exact HP1.out | exact HP2.out | exact HP3.out)
    ((first
      | (go_at_call 21; (with_reducible refine cs.mono ?_); rintro e w1 ⟨rfl, hb1⟩; have HB1 := Lib.hid (hbd.trans (hb1.mono hbd.size)); have HP1 := Lib.hid (HC.out _ HB1.out); have cd := dirty_any (HD.out.below HB1.out); clear cs hb1)
      | (go_at_call 35; (with_reducible refine cd.mono ?_); rintro e w2 ⟨rfl, rfl⟩; have cx := refDirty_any (HR.out.below HB1.out) (by omega); clear cd)
      | (go_at_call 36; (with_reducible refine cx.mono ?_); rintro e w3 ⟨rfl, hb3⟩; have HB3 := Lib.hid (HB1.out.trans (hb3.mono HB1.out.size)); have HP3 := Lib.hid (HC.out _ HB3.out); clear cx hb3)))
  clear c0 c1 c2 hbd
  obtain ⟨c0, c1, c2⟩ := HC.out _ HB3.out
  go_wp2
  go_loopw [5, 6, 7, 8] (fun s _ _ _ wr => ∃ i : Nat, i ≤ S ∧ s = .int .i64 i ∧ Hid (Below w.heap.size w wr)) (fun s _ _ _ _ => S - (intOf s).toNat)
  case atStart => exact ⟨0, Nat.zero_le _, rfl, HB3⟩
  case round =>
    obtain ⟨i, hi, rfl, HB⟩ := hrel
    clear c0 c1 c2
    obtain ⟨c0, c1, c2⟩ := HC.out _ HB.out
    have hS2 := HSH.out.s2
    have hP2 := HSH.out.p2
    by_cases hlt : i < S
    · have hil : (i : Int) < S := by omega
      go_wp2
      go_loopw [6, 7, 8] (fun p _ _ wr => ∃ j : Nat, j ≤ P ∧ p = .int .i64 j ∧ Hid (Below w.heap.size w wr)) (fun p _ _ _ => P - (intOf p).toNat)
      case atStart => exact ⟨0, Nat.zero_le _, rfl, HB⟩
      case round =>
        obtain ⟨j, hj, rfl, HB4⟩ := hrel
        clear c0 c1 c2
        obtain ⟨c0, c1, c2⟩ := HC.out _ HB4.out
        by_cases hlp : j < P
        · have hjl : (j : Int) < P := by omega
          have hwi : W64 (i : Int) := WalkArith.wf_i64 (by omega)
          have hwj : W64 (j : Int) := WalkArith.wf_i64 (by omega)
          have HWI := Lib.hid hwi
          have HWJ := Lib.hid hwj
          have cr := read_in (HD.out.below HB4.out) i j hwi hwj ⟨by omega, by omega, by omega, by omega⟩
          clear hwi hwj
          cases hlk : lk M i j with
          | none =>
            have HLK := Lib.hid hlk
            clear hlk
            go_wp2_with (first
              | (go_at_call 37; (with_reducible refine cr.mono ?_); rintro e w5 ⟨g, rfl, hg, hrow, hb5⟩; have HB5 := Lib.hid (HB4.out.trans (hb5.mono HB4.out.size)); have HROW := Lib.hid hrow; have HGL := Lib.hid hrow.lt; have cx := refRead_any (HR.out.below HB5.out) i j (by omega); clear cr hb5 hrow)
              | (go_at_call 39; (with_reducible refine cx.mono ?_); rintro e w6 ⟨A6, c6, rfl, hs6, hb6⟩; have HB6 := Lib.hid (HB5.out.trans (hb6.mono HB5.out.size)); have hrow6 := (HROW.out.below hb6 HGL.out).bs (B := w6.heap.size) (Nat.lt_of_lt_of_le HGL.out hb6.size); rw [full_length] at hrow6; have cb := bytes_any (some ⟨g, 0, none⟩) A6 B B B c6 w6.heap.size _ _ w6 hrow6 hs6 (by have := HSH.out.b2; omega); rw [decide_eq_true rfl] at cb; clear cx hs6 hb6 hrow6)
              | (go_at_call 38; (with_reducible refine cb.mono ?_); rintro e w7 ⟨rfl, m7, rfl⟩; have HB7 := Lib.hid (below_drewN HB6.out m7); have cu := used_any (HD.out.below HB7.out) i j HWI.out HWJ.out; rw [HLK.out] at cu; clear cb)
              | (go_at_call 40; (with_reducible refine cu.mono ?_); rintro e w8 ⟨rfl, hb8⟩; have HB8 := Lib.hid (HB7.out.trans (hb8.mono HB7.out.size)); have cf := find_none (HR.out.below HB8.out) i j (by omega) HLK.out; clear cu hb8)
              | (go_at_call 41; (with_reducible refine cf.mono ?_); rintro e w9 ⟨rfl, hb9⟩; have HB9 := Lib.hid (HB8.out.trans (hb9.mono HB8.out.size)); clear cf hb9))
            go_roundw
            case rel => exact ⟨j + 1, by omega, by go_num, HB9⟩
            case measure => simp [intOf]; omega
          | some r =>
            have HLK := Lib.hid hlk
            clear hlk
            go_wp2_with (first
              | (go_at_call 37; (with_reducible refine cr.mono ?_); rintro e w5 ⟨g, rfl, hg, hrow, hb5⟩; have HB5 := Lib.hid (HB4.out.trans (hb5.mono HB4.out.size)); have HROW := Lib.hid hrow; have HGL := Lib.hid hrow.lt; have cx := refRead_any (HR.out.below HB5.out) i j (by omega); clear cr hb5 hrow)
              | (go_at_call 39; (with_reducible refine cx.mono ?_); rintro e w6 ⟨A6, c6, rfl, hs6, hb6⟩; have HB6 := Lib.hid (HB5.out.trans (hb6.mono HB5.out.size)); have hrow6 := (HROW.out.below hb6 HGL.out).bs (B := w6.heap.size) (Nat.lt_of_lt_of_le HGL.out hb6.size); rw [full_length] at hrow6; have cb := bytes_any (some ⟨g, 0, none⟩) A6 B B B c6 w6.heap.size _ _ w6 hrow6 hs6 (by have := HSH.out.b2; omega); rw [decide_eq_true rfl] at cb; clear cx hs6 hb6 hrow6)
              | (go_at_call 38; (with_reducible refine cb.mono ?_); rintro e w7 ⟨rfl, m7, rfl⟩; have HB7 := Lib.hid (below_drewN HB6.out m7); have cu := used_any (HD.out.below HB7.out) i j HWI.out HWJ.out; rw [HLK.out] at cu; clear cb)
              | (go_at_call 40; (with_reducible refine cu.mono ?_); rintro e w8 ⟨rfl, hb8⟩; have HB8 := Lib.hid (HB7.out.trans (hb8.mono HB7.out.size)); have cf := find_some (HR.out.below HB8.out) i j (by omega) (by rw [HLK.out]; rfl); clear cu hb8)
              | (go_at_call 41; (with_reducible refine cf.mono ?_); rintro e w9 ⟨j9, rfl, hb9⟩; have HB9 := Lib.hid (HB8.out.trans (hb9.mono HB8.out.size)); clear cf hb9))
            go_roundw
            case rel => exact ⟨j + 1, by omega, by go_num, HB9⟩
            case measure => simp [intOf]; omega
        · obtain rfl : j = P := by omega
          go_wp2
          go_roundw
          case rel => exact ⟨i + 1, by omega, by go_num, HB4⟩
          case measure => simp [intOf]; omega
    · obtain rfl : i = S := by omega
      go_wp2
      go_ret
      exact ⟨rfl, HB.out⟩
end
end Go.Proofs.YtndbjdnfibpicaaR
