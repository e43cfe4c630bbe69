/-
  The example, and what a map of a list of numbers gives (over a program of 65 words).
-/
import Derived.Test.YtgfafcolfcdkdaaDoorBitRuns
import Derived.Test.YtgfafcolfcdkdaaDoorBitOf
import Derived.Test.YtgfafcolfcdkdaaDoorBitWithin
namespace Go.Proofs.YtgfafcolfcdkdaaDoor
open Go.ChangeShapes Go.WideShapes Go.ChangeAt Go.RowKit
set_option maxRecDepth 100000

theorem lst_setOf (l : List Int) : Bm.lst (setOf l) 4160 = Bm.srt l 4097 := Bm.lst_srt (setOf_eq l)
theorem rng_cut {from_ to lo hi : Int} (hl1 : (if from_ < 0 then (0 : Int) else from_) = lo) (hh1 : (if (4097 : Int) < to then (4097 : Int) else to) = hi) : Bm.rng (cutI from_) (cutI to - cutI from_).toNat = Bm.rng lo (hi - lo).toNat := by
  have h0 : ∀ a : Int, Bm.rng a 0 = [] := fun _ => rfl
  unfold cutI
  by_cases h : hi ≤ lo
  · rw [show (hi - lo).toNat = 0 by omega, show (min (max to 0) 4097 - min (max from_ 0) 4097).toNat = 0 by split at hl1 <;> split at hh1 <;> omega, h0, h0]
  · have e1 : min (max from_ 0) 4097 = lo := by split at hl1 <;> split at hh1 <;> omega
    have e2 : min (max to 0) 4097 = hi := by split at hl1 <;> split at hh1 <;> omega
    rw [e1, e2]
theorem list_set (l : List Int) (w : World) (ht : Tab64 w) : Calls Tryd.prog 12 #[mapV (setOf l)] w (NumsTo (Bm.srt l 4097) w) := by
  have h := list_any (setOf l) w ht
  rwa [lst_setOf] at h
theorem len_set (l : List Int) (w : World) : Calls Tryd.prog 13 #[mapV (setOf l)] w fun e w' => e = .returned (.int .i64 ((Bm.srt l 4097).length : Int)) ∧ Below w.heap.size w w' := by
  have h := len_any (setOf l) w
  rwa [← Bm.lst_length, lst_setOf] at h
theorem runs_set (l : List Int) (from_ to lo hi : Int) (hl1 : (if from_ < 0 then (0 : Int) else from_) = lo) (hh1 : (if (4097 : Int) < to then (4097 : Int) else to) = hi) (w : World) (ht : Tab64 w) :
    Calls Tryd.prog 20 #[mapV (setOf l), .int .i64 from_, .int .i64 to] w (RunsTo (Bm.runs l (Bm.rng lo (hi - lo).toNat)) w) := by
  have h := runs_any (setOf l) l (lst_setOf l) from_ to (cutI from_) (cutI to) rfl rfl w ht
  rwa [rng_cut hl1 hh1] at h
theorem awake_any (w : World) (ht : Tab64 w) : Calls Tryd.prog 6 #[] w fun e w' => e = .returned (.bool true) ∧ Below w.heap.size w w' := by
  obtain ⟨wa, hwa⟩ : ∃ wa, wa = w.alloc (.cells #[.int .i64 1, .int .i64 2] 3) := ⟨_, rfl⟩
  have hba : Below w.heap.size w wa := by rw [hwa]; exact (Below.refl _ _).alloc (Nat.le_refl _) _
  have hvs : Vs wa wa.heap.size (some ⟨w.heap.size, 0, none⟩) 2 (nums .i64 [1, 2]) := by
    have h := Vs.new w 3 (0, 0) #[.int .i64 1, .int .i64 2]
    rw [hwa, World.size_alloc]
    exact h
  have co := of_any (some ⟨w.heap.size, 0, none⟩) 2 2 wa.heap.size [1, 2] wa hvs (Nat.le_refl _) (by omega)
  have cr := fun W (h : Tab64 W) => runs_set [1, 2] 0 4 0 4 rfl rfl W h
  have hl : Bm.runs [1, 2] (Bm.rng 0 ((4 : Int) - 0).toNat) = [(0, 1, false), (1, 3, true), (3, 4, false)] := by decide
  rw [hl] at cr
  have HWA := Lib.hid hwa
  have HBA := Lib.hid hba
  have HT := Lib.hid ht
  unfold mapV at co cr
  generalize mapC (setOf [1, 2]) = cs at *
  clear hwa hba hvs hl ht
  go_enter Tryd.func6, Tryd.ntmps6
  go_wp2_with (first
    | (go_at_call 7; rw [← HWA.out]; (with_reducible refine co.mono ?_); rintro e w1 ⟨rfl, hb1⟩; have HB1 := Lib.hid (HBA.out.trans (hb1.mono HBA.out.size)); clear hb1 co)
    | (go_at_call 20; (with_reducible refine (cr _ (HT.out.on HB1.out)).mono ?_); rintro e w2 ⟨A2, c2, rfl, hr2, hc2, hb2⟩; have HB2 := Lib.hid (HB1.out.trans (hb2.mono HB1.out.size)); obtain ⟨b, off, rfl, hbb, hcc⟩ := hr2.at (by decide); obtain ⟨d0, d1, d2⟩ := hcc 1 (by decide); dsimp only [List.getElem_cons_succ, List.getElem_cons_zero] at d0 d1 d2; clear hcc hr2 hb2 cr))
  go_ret
  exact ⟨rfl, HB2.out⟩
end Go.Proofs.YtgfafcolfcdkdaaDoor
