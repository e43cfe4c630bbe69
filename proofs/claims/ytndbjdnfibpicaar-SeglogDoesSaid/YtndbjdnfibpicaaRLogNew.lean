/-
  The program's log: usable, Load of a fresh device, New.
-/
import Derived.Test.YtndbjdnfibpicaaRLogSeal
import Derived.Test.YtndbjdnfibpicaaRFlashNew
import Derived.Test.YtndbjdnfibpicaaRLogIndex
namespace Go.Proofs.YtndbjdnfibpicaaR
open Go.ChangeShapes Go.WideShapes Go.ChangeAt Go.RowKit Fl Lo
set_option maxRecDepth 100000

/-- a log of a fresh device -/
def g0 (S : Nat) : Lg := ⟨List.replicate S 0, -1, 0, 1, []⟩
theorem rep_get {S : Nat} {j : Nat} {x : Int} (h : (List.replicate S (0 : Int))[j]? = some x) : x = 0 := by
  obtain ⟨hlt, he⟩ := List.getElem?_eq_some_iff.1 h
  simpa using he.symm
theorem g0_inv {S P B : Nat} (h : Shp S P B) : Lo.Inv S P B (g0 S) :=
  ⟨h, by simp [g0], ⟨fun q hq => (nomatch hq), List.Pairwise.nil⟩, fun _ => ⟨rfl, rfl, fun j hj => by have := rep_get hj; omega⟩, fun h0 => absurd h0 (by show ¬ (0 : Int) ≤ -1; omega),
    fun j _ p => rfl, fun h0 => absurd h0 (by show ¬ (0 : Int) ≤ -1; omega), fun x hx => .inl (by simpa using (List.mem_replicate.1 hx).2)⟩
theorem usable_nil (w : World) : Calls Try.prog 20 #[.pointer none] w fun e w' => e = .returned (.int .i64 2) ∧ Below w.heap.size w w' := by
  have cs := shape_nil w
  go_enter Try.func20, Try.ntmps20
  go_wp2_with (go_at_call 21; (with_reducible refine cs.mono ?_); rintro e w1 ⟨rfl, hb1⟩; have HB1 := Lib.hid hb1; clear hb1 cs)
  go_ret
  exact ⟨rfl, HB1.out.alloc HB1.out.size _⟩
section
variable {S P B db mb lb k : Nat} {w w' : World} {v : Nat → Nat} {M : List Pg}
theorem usable_any (h : Dev w v k S P B db mb M) : Calls Try.prog 20 #[.pointer (some ⟨db, 0, none⟩)] w fun e w' => e = .returned (.int .i64 (if S < 4 then 1 else 0)) ∧ Below w.heap.size w w' := by
  have cs := shape_any h
  have h1 := h.shp.s1
  have e0 : ((S : Int) == 0) = false := by simp; omega
  have e1 : decide ((S : Int) = 0) = false := decide_eq_false (by omega)
  have e2 : decide (S = 0) = false := decide_eq_false (by omega)
  have e3 : ¬ S = 0 := by omega
  by_cases h4 : S < 4
  · rw [if_pos h4]
    have e4 : decide ((S : Int) < 4) = true := decide_eq_true (by omega)
    clear h h4
    go_enter Try.func20, Try.ntmps20
    go_wp2_with (go_at_call 21; (with_reducible refine cs.mono ?_); rintro e w1 ⟨rfl, hb1⟩; have HB1 := Lib.hid hb1; clear hb1 cs)
    go_ret
    exact ⟨rfl, HB1.out.alloc HB1.out.size _⟩
  · rw [if_neg h4]
    have e4 : decide ((S : Int) < 4) = false := decide_eq_false (by omega)
    clear h h4
    go_enter Try.func20, Try.ntmps20
    go_wp2_with (go_at_call 21; (with_reducible refine cs.mono ?_); rintro e w1 ⟨rfl, hb1⟩; have HB1 := Lib.hid hb1; clear hb1 cs)
    go_ret
    exact ⟨rfl, HB1.out.alloc HB1.out.size _⟩
/-- a log just made -/
def BornTo (S P B db mb : Nat) (w : World) (v : Nat → Nat) (e : Ending) (w' : World) : Prop :=
  ∃ lb v', e = .returned (.tuple #[.pointer (some ⟨lb, 0, none⟩), .int .i64 0]) ∧ w.heap.size ≤ lb ∧ Plg w' v' S P B lb db mb (g0 S) ∧ Stp 3 w w' v v'
set_option maxHeartbeats 4000000 in
theorem load_any (h : Dev w v 1 S P B db mb []) (h4 : 4 ≤ S) : Calls Try.prog 23 #[.pointer (some ⟨db, 0, none⟩), .slice none 0 0, .int .u64 1] w (BornTo S P B db mb w v) := by
  have cu := usable_any h
  rw [if_neg (by omega)] at cu
  have HD := Lib.hid h
  have hS2 := h.shp.s2
  have H4 := Lib.hid h4
  clear h h4
  go_enter Try.func23, Try.ntmps23
  go_wp2_with (first
    | (go_at_call 20; (with_reducible refine cu.mono ?_); rintro e w1 ⟨rfl, hb1⟩; have HB1 := Lib.hid hb1; have hb2 := hb1.alloc hb1.size (.cells (newCells db 1) 72); have HB2 := Lib.hid hb2; have HL2 := Lib.hid (Lb.new w1 db 1 1 rfl hS2); have ca := all_any HL2.out (HD.out.below hb2); clear hb1 cu hb2)
    | (go_at_call 34; (with_reducible refine ca.mono ?_); rintro e w3 ⟨rfl, hb3⟩; have HB23 := Lib.hid hb3; have HB3 := Lib.hid (HB2.out.trans (hb3.mono HB2.out.size)); clear hb3 ca))
  go_loopw [10, 23] (fun _ i wr => ∃ j : Nat, j ≤ S ∧ i = .int .i64 j ∧ Hid (Below w3.heap.size w3 wr)) (fun _ i _ => S - (intOf i).toNat)
  case atStart => exact ⟨0, Nat.zero_le _, rfl, Lib.hid (Below.refl _ _)⟩
  case round =>
    obtain ⟨j, hj, rfl, HB⟩ := hrel
    by_cases hlt : j < S
    · have cc := contains_nil (j : Int) wr
      have HBW := Lib.hid (HB3.out.trans (HB.out.mono HB3.out.size))
      have cl := clean_yes (HD.out.below HBW.out) (j : Int) (WalkArith.wf_i64 (by omega)) ⟨by omega, by omega⟩ (fun _ => rfl)
      go_wp2_with (first
        | (go_at_call 48; (with_reducible refine cc.mono ?_); rintro e w4 ⟨rfl, rfl⟩; clear cc)
        | (go_at_call 49; (with_reducible refine cl.mono ?_); rintro e w5 ⟨rfl, hb5⟩; have HB5 := Lib.hid (HB.out.trans (hb5.mono HB.out.size)); clear cl hb5))
      go_roundw
      case rel => exact ⟨j + 1, by omega, by go_num, HB5⟩
      case measure => simp [intOf]; omega
    · obtain rfl : j = S := by omega
      go_wp2
      go_ret2
      have hbw := HB3.out.trans (HB.out.mono HB3.out.size)
      have hlt1 : w1.heap.size < wr.heap.size := by have := HB23.out.size; have := HB.out.size; rw [size_alloc] at *; omega
      have st : ∀ k, Stp k w wr v (paint v w1.heap.size 3) := fun k => (Stp.below hbw HD.out.fr).paint 3 HB1.out.size hlt1
      have hl := (HL2.out.kept (HB23.out.block _ HL2.out.lt)).kept (HB.out.block _ (HL2.out.kept (HB23.out.block _ HL2.out.lt)).lt)
      exact ⟨w1.heap.size, _, rfl, HB1.out.size, ⟨g0_inv HD.out.shp, H4.out, HD.out.other (st 2) (by omega) (by omega), paint_same _ _ _, 0, hl, fun _ => rfl⟩, st 3⟩
theorem lnew_nil (w : World) : Calls Try.prog 8 #[.pointer none] w fun e w' => e = .returned (.tuple #[.pointer none, .int .i64 2]) ∧ Below w.heap.size w w' := by
  have cu := usable_nil w
  go_enter Try.func8, Try.ntmps8
  go_wp2_with (go_at_call 20; (with_reducible refine cu.mono ?_); rintro e w1 ⟨rfl, hb1⟩; have HB1 := Lib.hid hb1; clear hb1 cu)
  go_ret2
  exact ⟨rfl, HB1.out⟩
theorem lnew_small (h : Dev w v k S P B db mb M) (h4 : S < 4) : Calls Try.prog 8 #[.pointer (some ⟨db, 0, none⟩)] w fun e w' => e = .returned (.tuple #[.pointer none, .int .i64 1]) ∧ Below w.heap.size w w' := by
  have cu := usable_any h
  rw [if_pos h4] at cu
  clear h h4
  go_enter Try.func8, Try.ntmps8
  go_wp2_with (go_at_call 20; (with_reducible refine cu.mono ?_); rintro e w1 ⟨rfl, hb1⟩; have HB1 := Lib.hid hb1; clear hb1 cu)
  go_ret2
  exact ⟨rfl, HB1.out⟩
def NewLogTo (S P B db mb : Nat) (w : World) (v : Nat → Nat) (e : Ending) (w' : World) : Prop :=
  ∃ lb v', e = .returned (.tuple #[.pointer (some ⟨lb, 0, none⟩), .int .i64 0]) ∧ Plg w' v' S P B lb db mb (g0 S) ∧ Ms Kp w v w' v'
set_option maxHeartbeats 4000000 in
theorem lnew_any (h : Dev w v 1 S P B db mb []) (h4 : 4 ≤ S) : Calls Try.prog 8 #[.pointer (some ⟨db, 0, none⟩)] w (NewLogTo S P B db mb w v) := by
  have cu := usable_any h
  rw [if_neg (by omega)] at cu
  have HD := Lib.hid h
  have hS2 := h.shp.s2
  have H4 := Lib.hid h4
  have hsg := shape_seg S P B
  clear h h4
  go_enter Try.func8, Try.ntmps8
  go_wp2_with (first
    | (go_at_call 20; (with_reducible refine cu.mono ?_); rintro e w1 ⟨rfl, hb1⟩; have HB1 := Lib.hid hb1; have cs := shape_any (HD.out.below hb1); clear hb1 cu)
    | (go_at_call 21; (with_reducible refine cs.mono ?_); rintro e w2 ⟨rfl, hb2⟩; have HB2 := Lib.hid (HB1.out.trans (hb2.mono HB1.out.size)); clear hb2 cs))
  go_loopw [5, 14] (fun _ i wr => ∃ j : Nat, j ≤ S ∧ i = .int .i64 j ∧ Hid (Dev wr v 1 S P B db mb []) ∧ Hid (Stp 1 w2 wr v v)) (fun _ i _ => S - (intOf i).toNat)
  case atStart => exact ⟨0, Nat.zero_le _, rfl, Lib.hid (HD.out.below HB2.out), Lib.hid (Stp.refl (HD.out.below HB2.out).fr)⟩
  case round =>
    obtain ⟨j, hj, rfl, HDj, HSj⟩ := hrel
    by_cases hlt : j < S
    · have ce := erase_in HDj.out (by omega) (j : Int) (WalkArith.wf_i64 (by omega)) ⟨by omega, by omega⟩ (by simp)
      have HE : Hid (erase (j : Int) [] = []) := Lib.hid rfl
      rw [show erase (j : Int) [] = [] from rfl] at ce
      go_wp2_with (go_at_call 22; (with_reducible refine ce.mono ?_); rintro e w3 ⟨rfl, hD3, hS3⟩; have HD3 := Lib.hid hD3; have HS3 := Lib.hid (HSj.out.trans hS3); clear ce hD3 hS3)
      go_roundw
      case rel => exact ⟨j + 1, by omega, by go_num, HD3, HS3⟩
      case measure => simp [intOf]; omega
    · obtain rfl : j = S := by omega
      have cl := load_any HDj.out H4.out
      go_wp2_with (go_at_call 23; (with_reducible refine cl.mono ?_); rintro e w4 ⟨lb, v4, rfl, hlb4, hP4, hS4⟩; have HP4 := Lib.hid hP4; have HS4 := Lib.hid hS4; clear cl hP4 hS4)
      go_ret2
      exact ⟨lb, v4, rfl, HP4.out, ((Ms.one (k := 1) (by unfold Kp; omega) (Stp.below HB2.out HD.out.fr)).step (k := 1) (by unfold Kp; omega) HSj.out).step (k := 3) (by unfold Kp; omega) HS4.out⟩
end
end Go.Proofs.YtndbjdnfibpicaaR
