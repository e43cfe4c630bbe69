/-
  The program's device: New.
-/
import Derived.Test.YtndbjdnfibpicaaRFlashSmall
import Derived.Test.YtndbjdnfibpicaaRMCells
namespace Go.Proofs.YtndbjdnfibpicaaR
open Go.ChangeShapes Go.WideShapes Go.ChangeAt Go.RowKit Fl
set_option maxRecDepth 100000

section
variable {k S P B db mb : Nat} {w w' : World} {v : Nat → Nat} {L : List Pg}
/-- a new device -/
def NewTo (k S P B : Nat) (w : World) (v : Nat → Nat) (e : Ending) (w' : World) : Prop :=
  ∃ db mb v', e = .returned (.tuple #[.pointer (some ⟨db, 0, none⟩), .int .i64 0]) ∧ w.heap.size ≤ db ∧ w.heap.size ≤ mb ∧ Dev w' v' k S P B db mb [] ∧ ∀ j, Stp j w w' v v'
theorem new_no (s p b : Int) (w : World) (h : shpB s p b = false) : Calls Try.prog 7 #[.agg #[.int .i64 s, .int .i64 p, .int .i64 b]] w fun e w' => e = .returned (.tuple #[.pointer none, .int .i64 1]) ∧ Below w.heap.size w w' := by
  have hb := below_new4 w (.cells #[.int .i64 s, .int .i64 p, .int .i64 b] 23)
  have hr := fun W => right_any s p b W
  rw [h] at hr
  go_enter Try.func7, Try.ntmps7
  go_wp2_with (go_at_call 19; (with_reducible refine (hr _).mono ?_); rintro e w1 ⟨rfl, hb1⟩)
  go_ret2
  exact ⟨rfl, hb.trans (hb1.mono hb.size)⟩
theorem Fl.Shp.ofB {S P B : Nat} (h : Shp S P B) : shpB S P B = true := by
  obtain ⟨a, b, c, d, e, f⟩ := h
  unfold shpB
  rw [decide_eq_true ⟨by omega, by omega⟩, decide_eq_true ⟨by omega, by omega⟩, decide_eq_true ⟨by omega, by omega⟩]
  rfl
theorem dev_born (hs : Shp S P B) (hf : Fr w v) (w1 : World) (hb : Below w.heap.size w w1) :
    NewTo k S P B w v (.returned (.tuple #[.pointer (some ⟨w1.heap.size + 1, 0, none⟩), .int .i64 0])) ((w1.alloc (.map #[] 0)).alloc (.cells #[.int .i64 S, .int .i64 P, .int .i64 B, .map (some w1.heap.size), nl] 60)) := by
  obtain ⟨o2, ho2⟩ : ∃ o, o = Obj.cells #[.int .i64 S, .int .i64 P, .int .i64 B, .map (some w1.heap.size), nl] 60 := ⟨_, rfl⟩
  rw [← ho2]
  have hb2 : Below w.heap.size w ((w1.alloc (.map #[] 0)).alloc o2) := (hb.alloc hb.size _).alloc (by have := hb.size; simp; omega) _
  have e1 : (w1.alloc (.map #[] 0)).heap.size = w1.heap.size + 1 := by simp
  have e2 : ((w1.alloc (.map #[] 0)).alloc o2).heap.size = w1.heap.size + 2 := by simp
  have hd : ((w1.alloc (.map #[] 0)).alloc o2).heap[w1.heap.size + 1]? = some o2 := by
    have := heap_alloc_new (w1.alloc (.map #[] 0)) o2
    rwa [e1] at this
  have hm : Mp ((w1.alloc (.map #[] 0)).alloc o2) w1.heap.size 0 (fun _ _ => none) := (Mp.made w1).kept (row := none) (World.grownBy_alloc _ _ _) (by simp)
  refine ⟨w1.heap.size + 1, w1.heap.size, Go.Proofs.YtndbjdnfibpicaaR.paint (Go.Proofs.YtndbjdnfibpicaaR.paint v (w1.heap.size + 1) k) w1.heap.size k, rfl, Nat.le_succ_of_le hb.size, hb.size, ?_, fun j => ?_⟩
  · refine ⟨hs, ⟨fun q hq => (nomatch hq), List.Pairwise.nil⟩, ?_, ?_, paint_same _ _ _, by omega, ⟨nl, by rw [ho2] at hd ⊢; exact hd, World.ownsRow_nil _ _ _ _, fun g hg => (nomatch hg)⟩, ⟨_, hm, fun _ _ => .inl ⟨rfl, rfl⟩⟩⟩
    · intro i hi
      rw [e2] at hi
      rw [paint_other (by omega), paint_other (by omega)]
      exact hf i (by have := hb.size; omega)
    · rw [paint_other (by omega), paint_same]
  · have hsz := hb.size
    exact ((Stp.below hb2 hf).paint k (by omega) (by omega)).paint k (by omega) (by omega)
theorem new_yes (hs : Shp S P B) (hf : Fr w v) : Calls Try.prog 7 #[.agg #[.int .i64 S, .int .i64 P, .int .i64 B]] w (NewTo k S P B w v) := by
  have hb := below_new4 w (.cells #[.int .i64 S, .int .i64 P, .int .i64 B] 23)
  have t3 := Three.new w (.int .i64 S) (.int .i64 P) (.int .i64 B) 23
  have hr := fun W => right_any S P B W
  rw [hs.ofB] at hr
  have hmm := @run_makeMap Try.prog
  go_enter Try.func7, Try.ntmps7
  go_wp2_with (go_at_call 19; (with_reducible refine (hr _).mono ?_); rintro e w1 ⟨rfl, hb1⟩; obtain ⟨_, k0, k1, k2, _⟩ := t3.below hb1)
  go_ret2
  exact dev_born hs hf w1 (hb.trans (hb1.mono hb.size))
end
end Go.Proofs.YtndbjdnfibpicaaR
