/-
  With, Without (over a program of 65 words).
-/
import Derived.Test.YtcmhodimkpkmbaaDoorBitHas
import Derived.Deep.RegionHeld3
import Derived.StillTailTactics
import Derived.Lib.Hide
namespace Go.Proofs.YtcmhodimkpkmbaaDoor
open Go.ChangeShapes Go.WideShapes Go.ChangeAt Go.RowKit
set_option maxRecDepth 100000

theorem res_with {U : World} {tm : Array Value} {b : Nat} {t : Nat → Bool} (h4 : tm.getD 4 undef = .pointer (some ⟨b, 0, none⟩)) (hr : U.rangeAt b 0 (mapC t)) :
    (results Tryd.f42 tm).run Tryd.prog U = .ok (mapV t) U := by
  have h5 : tm[4]?.getD undef = .pointer (some ⟨b, 0, none⟩) := by simpa using h4
  have hl := run_loadVar_mid (P := Tryd.prog) U b 0 76 (mapC t) _ hr Tryd.underlying76 (by rfl) (by rw [map_size, mapC_length])
  simp [results, Tryd.results42, h5, asAddr, hl, mapV]
set_option maxHeartbeats 1000000 in
theorem with_yes (s : Nat → Bool) (k j : Nat) (w : World) (hk : k < 65) (hj : j < 64) (h : 64 * k + j ≤ 4096) : Calls Tryd.prog 42 #[mapV s, .int .i64 ((64 * k + j : Nat) : Int)] w fun e w' => e = .returned (mapV (Bm.ins s (64 * k + j))) ∧ Below w.heap.size w w' := by
  have hm := MapAt.new w s
  have hz := map_zero
  have cb := fun W => bit_any k j hj W
  obtain ⟨i, hi⟩ : ∃ i, i = 64 * k + j := ⟨_, rfl⟩
  have cm := fun W => may_any (i : Int) W
  rw [show mayB (i : Int) = true from decide_eq_true (by omega)] at cm
  have hq : ((i : Int)).tdiv 64 = (k : Int) := by rw [hi]; exact tdiv64 k j hj
  rw [← hi] at cb ⊢
  have e1 : (w.alloc (.cells (mapC s).toArray 76)).heap.size = w.heap.size + 1 := by simp
  obtain ⟨wz, hwz⟩ : ∃ wz, wz = (w.alloc (.cells (mapC s).toArray 76)).alloc (.cells (mapC fun _ => false).toArray 76) := ⟨_, rfl⟩
  have hm2 : MapAt wz w.heap.size s := by rw [hwz]; exact hm.below ((Below.refl _ _).alloc (Nat.le_refl _) _) hm.lt
  have hz2 : MapAt wz (w.heap.size + 1) (fun _ => false) := by
    have h9 := MapAt.new (w.alloc (.cells (mapC s).toArray 76)) (fun _ => false)
    rw [e1] at h9
    rw [hwz]
    exact h9
  have hb2 : Below w.heap.size w wz := by rw [hwz]; exact ((Below.refl _ w).alloc (Nat.le_refl _) _).alloc (by simp) _
  obtain ⟨v, hv⟩ : ∃ v : Nat, v = Bm.word s k ||| 2 ^ j := ⟨_, rfl⟩
  have hop : bits BinOp.or IntKind.u64 (Bm.word s k : Int) ((2 ^ j : Nat) : Int) = (v : Int) := by
    rw [hv]
    exact u64_or_nat _ _ (Bm.word_lt s k) (show 2 ^ j < 2 ^ 64 from Nat.pow_lt_pow_right (by omega) hj)
  have hvw : v = Bm.word (Bm.ins s i) k := by rw [hv, hi, Bm.word_ins s k j hj]
  obtain ⟨wy, hwy⟩ : ∃ wy, wy = (wz.setCell ⟨w.heap.size, k, none⟩ (.int .u64 (v : Int))).drew := ⟨_, rfl⟩
  have hm3 : MapAt wy w.heap.size (Bm.ins s i) := by rw [hwy]; exact (MapAt.put hm2 k v hvw (fun q hq => Bm.word_ins_far s q i (by omega))).drewN 1
  have hz3 : MapAt wy (w.heap.size + 1) (fun _ => false) := by rw [hwy]; exact (Below.heap_setCell _ ⟨w.heap.size, k, none⟩ _ (w.heap.size + 1) (by dsimp only; omega)).trans hz2
  have hb3 : Below w.heap.size w wy := by rw [hwy]; exact (hb2.setCell (p := ⟨w.heap.size, k, none⟩) (by exact Nat.le_refl _) _).drew
  have hc2 : wz.cell? ⟨w.heap.size, k, none⟩ = some (.int .u64 (Bm.word s k : Int)) := hm2.cell hk
  have hf2 : wz.drew.frozen? ⟨w.heap.size, k, none⟩ = false := hm2.frozen k
  have hc3 : wz.drew.cell? ⟨w.heap.size, k, none⟩ = some (.int .u64 (Bm.word s k : Int)) := hm2.cell hk
  have hk0 : (0 : Int) ≤ (k : Int) := by omega
  have hk1 : (k : Int) < 65 := by omega
  have hkw : IntKind.i64.wrap (k : Int) = (k : Int) := IntWalk.i64_in _ (by omega)
  have HWZ := Lib.hid hwz
  have HR : Hid (wy.rangeAt w.heap.size 0 (mapC (Bm.ins s i))) := Lib.hid hm3.range
  have HBF : Hid (Below w.heap.size w (wy.setCells (w.heap.size + 1) 0 (mapC (Bm.ins s i)))) := Lib.hid (below_setCells _ _ _ _ (Nat.le_succ _) hb3)
  have HS : Hid ((wy.setCells (w.heap.size + 1) 0 (mapC (Bm.ins s i))).rangeAt (w.heap.size + 1) 0 (mapC (Bm.ins s i))) := Lib.hid (MapAt.stored hz3 _)
  have HT : Hid (wy.there (w.heap.size + 1) 0 (mapC (Bm.ins s i)).toArray.size) := Lib.hid (by
    have := hz3.there
    rw [show (mapC (Bm.ins s i)).toArray.size = 65 by simp [mapC_length]]
    exact this)
  have HI : Hid ((Tryd.prog.info? 76).map (·.size) = some (mapC (Bm.ins s i)).length) := Lib.hid (by rw [map_size, mapC_length])
  have HIA : Hid ((Tryd.prog.info? 76).map (·.size) = some (mapC (Bm.ins s i)).toArray.size) := Lib.hid (by rw [HI.out]; simp)
  have HO : Hid ((mapC (Bm.ins s i)).toArray.all (·.oneCell') = true) := Lib.hid (all_oneCell_toArray (u64s_one _))
  have HRES := Lib.hid (fun (tm : Array Value) (h4 : tm.getD 4 undef = .pointer (some ⟨w.heap.size + 1, 0, none⟩)) => res_with (t := Bm.ins s i) h4 HS.out)
  unfold mapV at HRES ⊢
  clear HS hm hm2 hz2 hb2 hm3 hz3 hb3 e1 hvw hv hi hwz
  subst hwy
  generalize mapC (Bm.ins s i) = c2 at *
  generalize mapC (fun _ => false) = z0 at *
  generalize mapC s = cs at *
  generalize Bm.word s k = x at *
  obtain ⟨y, hy⟩ : ∃ y : Int, y = ((2 ^ j : Nat) : Int) := ⟨_, rfl⟩
  rw [← hy] at hop cb
  clear hy
  go_enter Tryd.func42, Tryd.ntmps42
  go_wp2_with (go_at_call 46; (with_reducible refine (cm _).mono ?_); rintro e w1 ⟨rfl, rfl⟩; clear cm)
  rw [← HWZ.out]
  refine wp_region_still_tail 10 (by kernel_rfl) (by kernel_rfl) ?_
  simp only [List.take_succ_cons, List.take_zero, List.drop_succ_cons, List.drop_zero]
  repeat still_step
  still_call (Calls.mono (cb _) fun _ _ ⟨he, hw⟩ => ⟨he, hw.symm⟩)
  repeat still_step
  refine wpStill_nil ?_
  change wpList _ _ _ _ _ wz.drew
  go_wp2_with (first
    | (refine wpList_load_mid (by rfl) 76 (.tmp 2) (by rfl) w.heap.size 0 (by rfl) c2 _ HR.out Tryd.underlying76 (by rfl) HI.out ?_)
    | (refine wpList_store_mid (by rfl) 76 (.tmp 4) (.tmp 17) (by rfl) (w.heap.size + 1) 0 c2.toArray (by rfl) (by rfl) HT.out HIA.out HO.out ?_))
  exact bodyPost_ret (HRES.out _ rfl) rfl ⟨rfl, HBF.out⟩
end Go.Proofs.YtcmhodimkpkmbaaDoor
