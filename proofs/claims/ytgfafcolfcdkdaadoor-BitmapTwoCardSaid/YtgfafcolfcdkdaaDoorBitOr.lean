/-
  Or, And, Within (over a program of 65 words).
-/
import Derived.Test.YtgfafcolfcdkdaaDoorBitOf
import Derived.Test.YtgfafcolfcdkdaaDoorBitEq
import Derived.Laws.BitsAllLaws
namespace Go.Proofs.YtgfafcolfcdkdaaDoor
open Go.ChangeShapes Go.WideShapes Go.ChangeAt Go.RowKit
set_option maxRecDepth 100000

/-- two maps, word by word: so many words are made -/
def mixO (f : Bool → Bool → Bool) (s t : Nat → Bool) (k : Nat) : Nat → Bool := fun x => if x < 64 * k then f (s x) (t x) else s x
theorem mix_zero (f : Bool → Bool → Bool) (s t : Nat → Bool) : mixO f s t 0 = s := by
  funext x
  unfold mixO
  rw [if_neg (by omega)]
theorem mix_far (f : Bool → Bool → Bool) (s t : Nat → Bool) (k j : Nat) (h : j ≠ k) : Bm.word (mixO f s t (k + 1)) j = Bm.word (mixO f s t k) j := by
  refine Bm.word_ext fun b hb => ?_
  unfold mixO
  by_cases h1 : 64 * j + b < 64 * k
  · rw [if_pos h1, if_pos (by omega)]
  · rw [if_neg h1, if_neg (by omega)]
theorem mix_old (f : Bool → Bool → Bool) (s t : Nat → Bool) (k : Nat) : Bm.word (mixO f s t k) k = Bm.word s k := by
  refine Bm.word_ext fun b hb => ?_
  unfold mixO
  rw [if_neg (by omega)]
theorem mix_new (f : Bool → Bool → Bool) (s t : Nat → Bool) (k : Nat) : Bm.word (mixO f s t (k + 1)) k = Bm.word (fun x => f (s x) (t x)) k := by
  refine Bm.word_ext fun b hb => ?_
  unfold mixO
  rw [if_pos (by omega)]
theorem words_size : (Tryd.prog.info? 25).map (·.size) = some 65 := by kernel_rfl
theorem mix_all (f : Bool → Bool → Bool) (s t : Nat → Bool) : mapC (mixO f s t 65) = mapC (fun x => f (s x) (t x)) := by
  unfold mapC
  rw [Bm.words_ext fun x hx => ?_]
  unfold mixO
  rw [if_pos hx]
theorem res_or {U : World} {tm : Array Value} {b : Nat} {d : List Value} (hd : (Tryd.prog.info? 27).map (·.size) = some d.length) (h4 : tm.getD 4 undef = .pointer (some ⟨b, 0, none⟩)) (hr : U.rangeAt b 0 d) :
    (results Tryd.f17 tm).run Tryd.prog U = .ok (.agg d.toArray) U := by
  have h5 : tm[4]?.getD undef = .pointer (some ⟨b, 0, none⟩) := by simpa using h4
  have hl := run_loadVar_mid (P := Tryd.prog) U b 0 27 d _ hr Tryd.underlying27 (by rfl) hd
  simp [results, Tryd.results17, h5, asAddr, hl]
set_option maxHeartbeats 2000000 in
theorem or_any (s t : Nat → Bool) (w : World) : Calls Tryd.prog 17 #[mapV s, mapV t] w fun e w' => e = .returned (mapV fun x => s x || t x) ∧ Below w.heap.size w w' := by
  unfold mapV
  have hz := map_zero
  have a0 := MapAt.new w s
  have e1 : (w.alloc (.cells (mapC s).toArray 27)).heap.size = w.heap.size + 1 := by simp
  have a1 := MapAt.new (w.alloc (.cells (mapC s).toArray 27)) t
  rw [e1] at a1
  have e2 : ((w.alloc (.cells (mapC s).toArray 27)).alloc (.cells (mapC t).toArray 27)).heap.size = w.heap.size + 1 + 1 := by simp
  have a2 := MapAt.new ((w.alloc (.cells (mapC s).toArray 27)).alloc (.cells (mapC t).toArray 27)) (fun _ => false)
  rw [e2] at a2
  have HA0 := Lib.hid ((a0.below ((Below.refl _ _).alloc (Nat.le_refl _) (.cells (mapC t).toArray 27)) a0.lt).below (((Below.refl _ ((w.alloc (.cells (mapC s).toArray 27)).alloc (.cells (mapC t).toArray 27))).alloc (Nat.le_refl _) (.cells (mapC fun _ => false).toArray 27))) (by simp; omega))
  have HA1 := Lib.hid (a1.below (((Below.refl _ ((w.alloc (.cells (mapC s).toArray 27)).alloc (.cells (mapC t).toArray 27))).alloc (Nat.le_refl _) (.cells (mapC fun _ => false).toArray 27))) a1.lt)
  have HA2 := Lib.hid a2
  have HB0 := Lib.hid (show Below w.heap.size w (((w.alloc (.cells (mapC s).toArray 27)).alloc (.cells (mapC t).toArray 27)).alloc (.cells (mapC fun _ => false).toArray 27)) from (((Below.refl _ w).alloc (Nat.le_refl _) _).alloc (by simp) _).alloc (by simp; omega) _)
  have HA3 : Hid (MapAt (((w.alloc (.cells (mapC s).toArray 27)).alloc (.cells (mapC t).toArray 27)).alloc (.cells (mapC fun _ => false).toArray 27)) w.heap.size (mixO (fun a b => a || b) s t 0)) := Lib.hid (by rw [mix_zero]; exact HA0.out)
  have hrt := HA1.out.range
  have hcg := fun k h W => map_index t k h W
  have hlt65 : (Tryd.prog.info? 25).map (·.size) = some (mapC t).length := by rw [mapC_length]; exact words_size
  clear a0 a1 a2 e1 e2 HA0
  generalize mapC s = cs at *
  generalize mapC t = ct at *
  generalize mapC (fun _ => false) = z0 at *
  have HRT := Lib.hid hrt
  have HCG := Lib.hid hcg
  have HLT := Lib.hid hlt65
  clear hrt hcg hlt65
  go_enter Tryd.func17, Tryd.ntmps17
  go_wp2_with (refine wpList_load_mid (by rfl) 25 (.tmp 7) (by rfl) (w.heap.size + 1) 0 (by rfl) ct _ HRT.out Tryd.underlying25 (by rfl) HLT.out ?_)
  go_loopw [9] (fun i wr => ∃ k : Nat, k ≤ 65 ∧ i = .int .i64 k ∧ Hid (MapAt wr w.heap.size (mixO (fun a b => a || b) s t k)) ∧ Hid (MapAt wr (w.heap.size + 1) t) ∧ Hid (MapAt wr (w.heap.size + 1 + 1) fun _ => false) ∧ Hid (Below w.heap.size w wr)) (fun i _ => 65 - (intOf i).toNat)
  case atStart => exact ⟨0, by omega, rfl, HA3, HA1, HA2, HB0⟩
  case round =>
    obtain ⟨k, hk, rfl, H0, H1, H2, HB⟩ := hrel
    clear HA3 HA1 HA2 HB0
    by_cases hlt : k < 65
    · have c0 : wr.cell? ⟨w.heap.size, k, none⟩ = some (.int .u64 (Bm.word s k : Int)) := by
        have := H0.out.cell hlt
        rw [mix_old] at this
        exact this
      have c1 := fun W => HCG.out k hlt W
      have f0 : wr.frozen? ⟨w.heap.size, k, none⟩ = false := H0.out.frozen k
      have hop : bits BinOp.or IntKind.u64 (Bm.word s k : Int) (Bm.word t k : Int) = ((Bm.word s k ||| Bm.word t k : Nat) : Int) := u64_or_nat _ _ (Bm.word_lt s k) (Bm.word_lt t k)
      have HN : Hid (Bm.word s k ||| Bm.word t k = Bm.word (mixO (fun a b => a || b) s t (k + 1)) k) := Lib.hid (by rw [mix_new, Bm.word_or])
      have HFR : Hid (∀ j, j ≠ k → Bm.word (mixO (fun a b => a || b) s t (k + 1)) j = Bm.word (mixO (fun a b => a || b) s t k) j) := Lib.hid fun j h => mix_far _ s t k j h
      have hk0 : (0 : Int) ≤ (k : Int) := by omega
      have hk65 : (k : Int) < 65 := by omega
      generalize Bm.word s k = x at *
      generalize Bm.word t k = y at *
      clear hz
      go_wp2
      go_roundw
      case rel => exact ⟨k + 1, by omega, by go_num, Lib.hid (MapAt.put H0.out k (x ||| y) HN.out HFR.out), Lib.hid ((Below.heap_setCell _ ⟨w.heap.size, k, none⟩ _ (w.heap.size + 1) (by dsimp only; omega)).trans H1.out), Lib.hid ((Below.heap_setCell _ ⟨w.heap.size, k, none⟩ _ (w.heap.size + 1 + 1) (by dsimp only; omega)).trans H2.out), Lib.hid (HB.out.setCell (by exact Nat.le_refl _) _)⟩
      case measure => simp [intOf]; omega
    · obtain rfl : k = 65 := by omega
      obtain ⟨d, hd⟩ : ∃ d, d = mapC (fun x => s x || t x) := ⟨_, rfl⟩
      have hm := mix_all (fun a b => a || b) s t
      have HD := Lib.hid hd
      have HR1 : Hid (wr.rangeAt w.heap.size 0 d) := Lib.hid (by
        have h := H0.out.range
        rw [hm] at h
        rw [hd]
        exact h)
      have HI1 : Hid ((Tryd.prog.info? 27).map (·.size) = some d.length) := Lib.hid (by rw [hd]; exact map_infoC _)
      have HI2 : Hid ((Tryd.prog.info? 27).map (·.size) = some d.toArray.size) := Lib.hid (by rw [hd]; exact map_infoA _)
      have HO2 : Hid (d.toArray.all (·.oneCell') = true) := Lib.hid (by rw [hd]; exact mapC_one _)
      have HT1 : Hid (wr.there (w.heap.size + 1 + 1) 0 d.toArray.size) := Lib.hid (by rw [hd]; exact there_size H2.out _)
      have HF : Hid (∀ tm : Array Value, tm.getD 4 undef = .pointer (some ⟨w.heap.size + 1 + 1, 0, none⟩) → (results Tryd.f17 tm).run Tryd.prog (wr.setCells (w.heap.size + 1 + 1) 0 d) = .ok (.agg d.toArray) (wr.setCells (w.heap.size + 1 + 1) 0 d)) := Lib.hid fun tm h4 => res_or HI1.out h4 (by rw [hd]; exact H2.out.stored _)
      clear hd hm hz
      go_wp2_with (first
        | (refine wpList_load_mid (by rfl) 27 (.tmp 2) (by rfl) w.heap.size 0 (by rfl) d _ HR1.out Tryd.underlying27 (by rfl) HI1.out ?_)
        | (refine wpList_store_mid (by rfl) 27 (.tmp 4) (.tmp 22) (by rfl) (w.heap.size + 1 + 1) 0 d.toArray (by rfl) (by rfl) HT1.out HI2.out HO2.out ?_))
      exact bodyPost_ret (HF.out _ rfl) rfl ⟨by rw [HD.out], below_setCells _ _ _ _ (by omega) HB.out⟩
theorem res_and {U : World} {tm : Array Value} {b : Nat} {d : List Value} (hd : (Tryd.prog.info? 27).map (·.size) = some d.length) (h4 : tm.getD 4 undef = .pointer (some ⟨b, 0, none⟩)) (hr : U.rangeAt b 0 d) :
    (results Tryd.f18 tm).run Tryd.prog U = .ok (.agg d.toArray) U := by
  have h5 : tm[4]?.getD undef = .pointer (some ⟨b, 0, none⟩) := by simpa using h4
  have hl := run_loadVar_mid (P := Tryd.prog) U b 0 27 d _ hr Tryd.underlying27 (by rfl) hd
  simp [results, Tryd.results18, h5, asAddr, hl]
set_option maxHeartbeats 2000000 in
theorem and_any (s t : Nat → Bool) (w : World) : Calls Tryd.prog 18 #[mapV s, mapV t] w fun e w' => e = .returned (mapV fun x => s x && t x) ∧ Below w.heap.size w w' := by
  unfold mapV
  have hz := map_zero
  have a0 := MapAt.new w s
  have e1 : (w.alloc (.cells (mapC s).toArray 27)).heap.size = w.heap.size + 1 := by simp
  have a1 := MapAt.new (w.alloc (.cells (mapC s).toArray 27)) t
  rw [e1] at a1
  have e2 : ((w.alloc (.cells (mapC s).toArray 27)).alloc (.cells (mapC t).toArray 27)).heap.size = w.heap.size + 1 + 1 := by simp
  have a2 := MapAt.new ((w.alloc (.cells (mapC s).toArray 27)).alloc (.cells (mapC t).toArray 27)) (fun _ => false)
  rw [e2] at a2
  have HA0 := Lib.hid ((a0.below ((Below.refl _ _).alloc (Nat.le_refl _) (.cells (mapC t).toArray 27)) a0.lt).below (((Below.refl _ ((w.alloc (.cells (mapC s).toArray 27)).alloc (.cells (mapC t).toArray 27))).alloc (Nat.le_refl _) (.cells (mapC fun _ => false).toArray 27))) (by simp; omega))
  have HA1 := Lib.hid (a1.below (((Below.refl _ ((w.alloc (.cells (mapC s).toArray 27)).alloc (.cells (mapC t).toArray 27))).alloc (Nat.le_refl _) (.cells (mapC fun _ => false).toArray 27))) a1.lt)
  have HA2 := Lib.hid a2
  have HB0 := Lib.hid (show Below w.heap.size w (((w.alloc (.cells (mapC s).toArray 27)).alloc (.cells (mapC t).toArray 27)).alloc (.cells (mapC fun _ => false).toArray 27)) from (((Below.refl _ w).alloc (Nat.le_refl _) _).alloc (by simp) _).alloc (by simp; omega) _)
  have HA3 : Hid (MapAt (((w.alloc (.cells (mapC s).toArray 27)).alloc (.cells (mapC t).toArray 27)).alloc (.cells (mapC fun _ => false).toArray 27)) w.heap.size (mixO (fun a b => a && b) s t 0)) := Lib.hid (by rw [mix_zero]; exact HA0.out)
  have hrt := HA1.out.range
  have hcg := fun k h W => map_index t k h W
  have hlt65 : (Tryd.prog.info? 25).map (·.size) = some (mapC t).length := by rw [mapC_length]; exact words_size
  clear a0 a1 a2 e1 e2 HA0
  generalize mapC s = cs at *
  generalize mapC t = ct at *
  generalize mapC (fun _ => false) = z0 at *
  have HRT := Lib.hid hrt
  have HCG := Lib.hid hcg
  have HLT := Lib.hid hlt65
  clear hrt hcg hlt65
  go_enter Tryd.func18, Tryd.ntmps18
  go_wp2_with (refine wpList_load_mid (by rfl) 25 (.tmp 7) (by rfl) (w.heap.size + 1) 0 (by rfl) ct _ HRT.out Tryd.underlying25 (by rfl) HLT.out ?_)
  go_loopw [9] (fun i wr => ∃ k : Nat, k ≤ 65 ∧ i = .int .i64 k ∧ Hid (MapAt wr w.heap.size (mixO (fun a b => a && b) s t k)) ∧ Hid (MapAt wr (w.heap.size + 1) t) ∧ Hid (MapAt wr (w.heap.size + 1 + 1) fun _ => false) ∧ Hid (Below w.heap.size w wr)) (fun i _ => 65 - (intOf i).toNat)
  case atStart => exact ⟨0, by omega, rfl, HA3, HA1, HA2, HB0⟩
  case round =>
    obtain ⟨k, hk, rfl, H0, H1, H2, HB⟩ := hrel
    clear HA3 HA1 HA2 HB0
    by_cases hlt : k < 65
    · have c0 : wr.cell? ⟨w.heap.size, k, none⟩ = some (.int .u64 (Bm.word s k : Int)) := by
        have := H0.out.cell hlt
        rw [mix_old] at this
        exact this
      have c1 := fun W => HCG.out k hlt W
      have f0 : wr.frozen? ⟨w.heap.size, k, none⟩ = false := H0.out.frozen k
      have hop : bits BinOp.and IntKind.u64 (Bm.word s k : Int) (Bm.word t k : Int) = ((Bm.word s k &&& Bm.word t k : Nat) : Int) := u64_and_nat _ _ (Bm.word_lt s k) (Bm.word_lt t k)
      have HN : Hid (Bm.word s k &&& Bm.word t k = Bm.word (mixO (fun a b => a && b) s t (k + 1)) k) := Lib.hid (by rw [mix_new, Bm.word_and])
      have HFR : Hid (∀ j, j ≠ k → Bm.word (mixO (fun a b => a && b) s t (k + 1)) j = Bm.word (mixO (fun a b => a && b) s t k) j) := Lib.hid fun j h => mix_far _ s t k j h
      have hk0 : (0 : Int) ≤ (k : Int) := by omega
      have hk65 : (k : Int) < 65 := by omega
      generalize Bm.word s k = x at *
      generalize Bm.word t k = y at *
      clear hz
      go_wp2
      go_roundw
      case rel => exact ⟨k + 1, by omega, by go_num, Lib.hid (MapAt.put H0.out k (x &&& y) HN.out HFR.out), Lib.hid ((Below.heap_setCell _ ⟨w.heap.size, k, none⟩ _ (w.heap.size + 1) (by dsimp only; omega)).trans H1.out), Lib.hid ((Below.heap_setCell _ ⟨w.heap.size, k, none⟩ _ (w.heap.size + 1 + 1) (by dsimp only; omega)).trans H2.out), Lib.hid (HB.out.setCell (by exact Nat.le_refl _) _)⟩
      case measure => simp [intOf]; omega
    · obtain rfl : k = 65 := by omega
      obtain ⟨d, hd⟩ : ∃ d, d = mapC (fun x => s x && t x) := ⟨_, rfl⟩
      have hm := mix_all (fun a b => a && b) s t
      have HD := Lib.hid hd
      have HR1 : Hid (wr.rangeAt w.heap.size 0 d) := Lib.hid (by
        have h := H0.out.range
        rw [hm] at h
        rw [hd]
        exact h)
      have HI1 : Hid ((Tryd.prog.info? 27).map (·.size) = some d.length) := Lib.hid (by rw [hd]; exact map_infoC _)
      have HI2 : Hid ((Tryd.prog.info? 27).map (·.size) = some d.toArray.size) := Lib.hid (by rw [hd]; exact map_infoA _)
      have HO2 : Hid (d.toArray.all (·.oneCell') = true) := Lib.hid (by rw [hd]; exact mapC_one _)
      have HT1 : Hid (wr.there (w.heap.size + 1 + 1) 0 d.toArray.size) := Lib.hid (by rw [hd]; exact there_size H2.out _)
      have HF : Hid (∀ tm : Array Value, tm.getD 4 undef = .pointer (some ⟨w.heap.size + 1 + 1, 0, none⟩) → (results Tryd.f18 tm).run Tryd.prog (wr.setCells (w.heap.size + 1 + 1) 0 d) = .ok (.agg d.toArray) (wr.setCells (w.heap.size + 1 + 1) 0 d)) := Lib.hid fun tm h4 => res_and HI1.out h4 (by rw [hd]; exact H2.out.stored _)
      clear hd hm hz
      go_wp2_with (first
        | (refine wpList_load_mid (by rfl) 27 (.tmp 2) (by rfl) w.heap.size 0 (by rfl) d _ HR1.out Tryd.underlying27 (by rfl) HI1.out ?_)
        | (refine wpList_store_mid (by rfl) 27 (.tmp 4) (.tmp 22) (by rfl) (w.heap.size + 1 + 1) 0 d.toArray (by rfl) (by rfl) HT1.out HI2.out HO2.out ?_))
      exact bodyPost_ret (HF.out _ rfl) rfl ⟨by rw [HD.out], below_setCells _ _ _ _ (by omega) HB.out⟩
end Go.Proofs.YtgfafcolfcdkdaaDoor
