/-
  with, at the closures of Bound, Piece and Forget (written by gen_ixwith.py).
-/
import Derived.Test.YtcmhodimkpkmbaaDoorIxLand
namespace Go.Proofs.YtcmhodimkpkmbaaDoor
open Go.ChangeShapes Go.WideShapes Go.ChangeAt Go.RowKit
set_option maxRecDepth 100000

/-- a slot's map behind a closure -/
def MapTo (w w' : World) (s s' : Ix.Sl) (v v' : Value) : Prop := (v' = v ∧ s'.sl = s.sl) ∨ (v' = .map none ∧ s'.sl = []) ∨ ∃ mb, v' = .map (some mb) ∧ w.heap.size ≤ mb ∧ Mpi w' mb s'.sl
theorem MapTo.one {w w' : World} {s s' : Ix.Sl} {v v' : Value} (h : MapTo w w' s s' v v') (hv : v.oneCell' = true) : v'.oneCell' = true := by
  rcases h with ⟨rfl, _⟩ | ⟨rfl, _⟩ | ⟨mb, rfl, _⟩
  · exact hv
  · rfl
  · rfl
def SpTo2 (s s' : Ix.Sl) (v : Value) (w : World) (e : Ending) (w' : World) : Prop := ∃ ds v', ds = spC s' v' ∧ e = .returned (.agg ds.toArray) ∧ MapTo w w' s s' v v' ∧ Below w.heap.size w w'
theorem SpTo.two {s s' : Ix.Sl} {v : Value} {w w' : World} {e : Ending} (h : SpTo s s' v w e w') : SpTo2 s s' v w e w' := by
  obtain ⟨v', he, hv, hb⟩ := h
  exact ⟨spC s' v', v', rfl, he, hv, hb⟩
/-- what with comes to -/
def WithTo (S : Ix.St) (M : Nat → Value) (k : Nat) (s' : Ix.Sl) (w : World) (e : Ending) (w' : World) : Prop :=
  ∃ v', e = .returned (.agg (ixP (Ix.upd S k s') (updH M k v')).toArray) ∧ MapTo w w' (S k) s' (M k) v' ∧ Below w.heap.size w w'
theorem res_ixwith {U : World} {tm : Array Value} {q : Nat} {cs : List Value} (hd : cs.length = 176) (h4 : tm.getD 6 undef = .pointer (some ⟨q, 0, none⟩)) (hr : U.rangeAt q 0 cs) :
    (results Tryd.f30 tm).run Tryd.prog U = .ok (.agg cs.toArray) U := by
  have h5 : tm[6]?.getD undef = .pointer (some ⟨q, 0, none⟩) := by simpa using h4
  have hl := run_loadVar_mid (P := Tryd.prog) U q 0 35 cs _ hr Tryd.underlying35 (by rfl) (by rw [hd]; exact ix_size)
  simp [results, Tryd.results30, h5, asAddr, hl]
theorem upd_one {M : Nat → Value} (hM : ∀ k, k < 16 → (M k).oneCell' = true) {k : Nat} {v : Value} (hv : v.oneCell' = true) : ∀ j, j < 16 → (updH M k v j).oneCell' = true := fun j hj => by
  unfold updH
  split
  · exact hv
  · exact hM j hj
set_option maxHeartbeats 4000000 in
theorem withBound_yes (S : Ix.St) (M : Nat → Value) (hM : ∀ k, k < 16 → (M k).oneCell' = true) (k : Nat) (hk : k < 16) (s' : Ix.Sl) (pb pa : Nat) (w : World)
    (hC : ∀ W, Below w.heap.size w W → Calls Tryd.prog 31 #[spV (S k) (M k), .pointer (some ⟨pb, 0, none⟩), .pointer (some ⟨pa, 0, none⟩)] W (SpTo (S k) s' (M k) W)) :
    Calls Tryd.prog 30 #[.agg (ixP S M).toArray, .int .i64 (k : Int), .func (.func 31) #[] #[.pointer (some ⟨pb, 0, none⟩), .pointer (some ⟨pa, 0, none⟩)]] w (WithTo S M k s' w) := by
  have cm := fun W => mayObj_any (k : Int) W
  rw [show Ix.may (k : Int) = true from decide_eq_true (by omega)] at cm
  have cc : ∀ W, Below w.heap.size w W → Calls Tryd.prog 31 #[.agg (spC (S k) (M k)).toArray, .pointer (some ⟨pb, 0, none⟩), .pointer (some ⟨pa, 0, none⟩)] W (SpTo2 (S k) s' (M k) W) := fun W hb => (hC W hb).mono fun _ _ h => h.two
  have hz := ixP_zero
  have hzl := ixP_length Ix.st0 fun _ => .map none
  have hcl := ixP_length S M
  generalize (ixP Ix.st0 fun _ => .map none) = z0 at *
  obtain ⟨w0, hw0⟩ : ∃ w0, w0 = (w.alloc (.cells (ixP S M).toArray 35)).alloc (.cells z0.toArray 35) := ⟨_, rfl⟩
  have hB0 : Below w.heap.size w w0 := by rw [hw0]; exact ((Below.refl _ w).alloc (Nat.le_refl _) _).alloc (by simp) _
  have hx0 : IxBox w0 w.heap.size (ixP S M) := by
    rw [hw0]
    exact (Below.heap_alloc _ _ _ (by simp)).trans (heap_alloc_new w _)
  have hr0 : IxBox w0 (w.heap.size + 1) z0 := by
    have h9 := heap_alloc_new (w.alloc (.cells (ixP S M).toArray 35)) (.cells z0.toArray 35)
    rw [World.size_alloc] at h9
    rw [hw0]
    exact h9
  have HRG := Lib.hid (sp_range hx0 hk)
  have HSZ : Hid ((Tryd.prog.info? 32).map (·.size) = some (spC (S k) (M k)).length) := Lib.hid sp_size
  have HB0 := Lib.hid hB0
  have HCC := Lib.hid (cc w0 hB0)
  have HBEH : Hid (∀ ds v' w2, ds = spC s' v' → MapTo w0 w2 (S k) s' (M k) v' → Below w0.heap.size w0 w2 →
      ∃ cs3, cs3.length = 176 ∧ ds.length = 11 ∧ (∀ v ∈ ds, v.oneCell' = true) ∧ (∀ v ∈ cs3, v.oneCell' = true) ∧ w2.there w.heap.size (k * 11) 11 ∧ IxBox (w2.setCells w.heap.size (k * 11) ds) w.heap.size cs3 ∧ IxBox (w2.setCells w.heap.size (k * 11) ds) (w.heap.size + 1) z0 ∧
        WithTo S M k s' w (.returned (.agg cs3.toArray)) ((w2.setCells w.heap.size (k * 11) ds).setCells (w.heap.size + 1) 0 cs3)) := Lib.hid (by
    intro ds v' w2 hds hmt hb2
    have hx2 := hx0.below hb2
    have hr2 := hr0.below hb2
    have hput := sp_put hx2 hk s' v'
    have hone := hmt.one (hM k hk)
    have hw0s : w0.heap.size = w.heap.size + 2 := by rw [hw0]; simp
    refine ⟨ixP (Ix.upd S k s') (updH M k v'), ixP_length _ _, by rw [hds]; rfl, by rw [hds]; exact spC_one s' hone, ixP_one (upd_one hM hone), sp_there hx2 hcl hk, by rw [hds]; exact hput, ?_, v', rfl, ?_, ?_⟩
    · exact ((Else.setCells ds (k * 11) w2 (Else.refl w.heap.size w2)).same _ (by omega)).trans hr2
    · rcases hmt with h | h | ⟨mb, h1, h2, h3⟩
      · exact .inl h
      · exact .inr (.inl h)
      · refine .inr (.inr ⟨mb, h1, by omega, h3.same ?_⟩)
        rw [(Else.setCells _ 0 _ (Else.refl (w.heap.size + 1) _)).same mb (by omega), (Else.setCells ds (k * 11) w2 (Else.refl w.heap.size w2)).same mb (by omega)]
    · exact below_row _ _ _ _ (by omega) (below_row _ _ _ _ (Nat.le_refl _) (hB0.trans (hb2.mono hB0.size))))
  have hds : spV (S k) (M k) = .agg (spC (S k) (M k)).toArray := rfl
  have HZL := Lib.hid hzl
  generalize spC (S k) (M k) = ds0 at *
  generalize ixP S M = cs at *
  have hk0 : (0 : Int) ≤ (k : Int) := by omega
  have hk1 : (k : Int) < 16 := by omega
  clear hB0 hx0 hr0 hds hM hC cc hzl hcl
  subst hw0
  have HIX := Lib.hid ix_size
  go_enter Tryd.func30, Tryd.ntmps30
  go_wp2_with (first
    | (go_at_call 40; (with_reducible refine (cm _).mono ?_); rintro e w3 ⟨rfl, rfl⟩)
    | (refine wpList_load_mid (by rfl) 32 (.tmp 13) (by rfl) w.heap.size (k * 11) (by rfl) ds0 _ HRG.out Tryd.underlying32 (by rfl) HSZ.out ?_)
    | (go_at_call 31; (with_reducible refine HCC.out.mono ?_); rintro e w2 ⟨ds, v', hds, rfl, hmt, hb2⟩; obtain ⟨cs3, h1, h2, h3, h4, h5, h6, h7, h8⟩ := HBEH.out ds v' w2 hds hmt hb2; have HT : Hid (w2.there w.heap.size (k * 11) ds.toArray.size) := Lib.hid (by rw [show ds.toArray.size = 11 from List.size_toArray.trans h2]; exact h5); have HSZ2 : Hid ((Tryd.prog.info? 32).map (·.size) = some ds.toArray.size) := Lib.hid (by rw [show ds.toArray.size = 11 from List.size_toArray.trans h2]; exact sp_size); have HO := Lib.hid (all_oneCell_toArray h3); have HO3 := Lib.hid (all_oneCell_toArray h4); have HX6 := Lib.hid h6.range; have HSZ3 : Hid ((Tryd.prog.info? 35).map (·.size) = some cs3.length) := Lib.hid (by rw [h1]; exact HIX.out); have HSZ4 : Hid ((Tryd.prog.info? 35).map (·.size) = some cs3.toArray.size) := Lib.hid (by rw [show cs3.toArray.size = 176 from List.size_toArray.trans h1]; exact HIX.out); have HT7 : Hid ((w2.setCells w.heap.size (k * 11) ds).there (w.heap.size + 1) 0 cs3.toArray.size) := Lib.hid (by rw [show cs3.toArray.size = 176 from List.size_toArray.trans h1]; exact h7.there HZL.out); have HRES := Lib.hid (h7.put (h1.trans HZL.out.symm)).range; have HL3 := Lib.hid h1; have HEND := Lib.hid h8; clear hds hmt hb2 h1 h2 h3 h4 h5 h6 h7 h8)
    | (refine wpList_store_mid (by rfl) 32 (.tmp 17) (.tmp 15) (by rfl) w.heap.size (k * 11) ds.toArray (by rfl) (by rfl) HT.out HSZ2.out HO.out ?_; rw [List.toList_toArray])
    | (refine wpList_load_mid (by rfl) 35 (.tmp 3) (by rfl) w.heap.size 0 (by rfl) cs3 _ HX6.out Tryd.underlying35 (by rfl) HSZ3.out ?_)
    | (refine wpList_store_mid (by rfl) 35 (.tmp 6) (.tmp 18) (by rfl) (w.heap.size + 1) 0 cs3.toArray (by rfl) (by rfl) HT7.out HSZ4.out HO3.out ?_; rw [List.toList_toArray]))
  exact bodyPost_ret (res_ixwith HL3.out (by rfl) HRES.out) rfl HEND.out
set_option maxHeartbeats 4000000 in
theorem withBound_no (S : Ix.St) (M : Nat → Value) (hM : ∀ k, k < 16 → (M k).oneCell' = true) (o : Int) (h : Ix.may o = false) (pb pa : Nat) (w : World) :
    Calls Tryd.prog 30 #[.agg (ixP S M).toArray, .int .i64 o, .func (.func 31) #[] #[.pointer (some ⟨pb, 0, none⟩), .pointer (some ⟨pa, 0, none⟩)]] w fun e w' => e = .returned (.agg (ixP S M).toArray) ∧ Below w.heap.size w w' := by
  have cm := fun W => mayObj_any o W
  rw [h] at cm
  have hz := ixP_zero
  have hzl := ixP_length Ix.st0 fun _ => .map none
  have hcl := ixP_length S M
  generalize (ixP Ix.st0 fun _ => .map none) = z0 at *
  obtain ⟨w0, hw0⟩ : ∃ w0, w0 = (w.alloc (.cells (ixP S M).toArray 35)).alloc (.cells z0.toArray 35) := ⟨_, rfl⟩
  have hB0 : Below w.heap.size w w0 := by rw [hw0]; exact ((Below.refl _ w).alloc (Nat.le_refl _) _).alloc (by simp) _
  have hx0 : IxBox w0 w.heap.size (ixP S M) := by
    rw [hw0]
    exact (Below.heap_alloc _ _ _ (by simp)).trans (heap_alloc_new w _)
  have hr0 : IxBox w0 (w.heap.size + 1) z0 := by
    have h9 := heap_alloc_new (w.alloc (.cells (ixP S M).toArray 35)) (.cells z0.toArray 35)
    rw [World.size_alloc] at h9
    rw [hw0]
    exact h9
  have HX := Lib.hid hx0.range
  have HSZ3 : Hid ((Tryd.prog.info? 35).map (·.size) = some (ixP S M).length) := Lib.hid (by rw [hcl]; exact ix_size)
  have HSZ4 : Hid ((Tryd.prog.info? 35).map (·.size) = some (ixP S M).toArray.size) := Lib.hid (by rw [show (ixP S M).toArray.size = 176 from List.size_toArray.trans hcl]; exact ix_size)
  have HT : Hid (w0.there (w.heap.size + 1) 0 (ixP S M).toArray.size) := Lib.hid (by rw [show (ixP S M).toArray.size = 176 from List.size_toArray.trans hcl]; exact hr0.there hzl)
  have HO := Lib.hid (all_oneCell_toArray (ixP_one (S := S) hM))
  have HRES := Lib.hid (hr0.put (hcl.trans hzl.symm)).range
  have HBL := Lib.hid (below_row (ixP S M) (w.heap.size + 1) 0 w0 (by omega) hB0)
  have HCL := Lib.hid hcl
  generalize ixP S M = cs at *
  clear hB0 hx0 hr0 hM hzl hcl
  subst hw0
  go_enter Tryd.func30, Tryd.ntmps30
  go_wp2_with (first
    | (go_at_call 40; (with_reducible refine (cm _).mono ?_); rintro e w3 ⟨rfl, rfl⟩)
    | (refine wpList_load_mid (by rfl) 35 (.tmp 3) (by rfl) w.heap.size 0 (by rfl) cs _ HX.out Tryd.underlying35 (by rfl) HSZ3.out ?_)
    | (refine wpList_store_mid (by rfl) 35 (.tmp 6) (.tmp 18) (by rfl) (w.heap.size + 1) 0 cs.toArray (by rfl) (by rfl) HT.out HSZ4.out HO.out ?_; rw [List.toList_toArray]))
  exact bodyPost_ret (res_ixwith HCL.out (by rfl) HRES.out) rfl ⟨rfl, HBL.out⟩
set_option maxHeartbeats 4000000 in
theorem withPiece_yes (S : Ix.St) (M : Nat → Value) (hM : ∀ k, k < 16 → (M k).oneCell' = true) (k : Nat) (hk : k < 16) (s' : Ix.Sl) (pg pi pa : Nat) (w : World)
    (hC : ∀ W, Below w.heap.size w W → Calls Tryd.prog 34 #[spV (S k) (M k), .pointer (some ⟨pg, 0, none⟩), .pointer (some ⟨pi, 0, none⟩), .pointer (some ⟨pa, 0, none⟩)] W (SpTo (S k) s' (M k) W)) :
    Calls Tryd.prog 30 #[.agg (ixP S M).toArray, .int .i64 (k : Int), .func (.func 34) #[] #[.pointer (some ⟨pg, 0, none⟩), .pointer (some ⟨pi, 0, none⟩), .pointer (some ⟨pa, 0, none⟩)]] w (WithTo S M k s' w) := by
  have cm := fun W => mayObj_any (k : Int) W
  rw [show Ix.may (k : Int) = true from decide_eq_true (by omega)] at cm
  have cc : ∀ W, Below w.heap.size w W → Calls Tryd.prog 34 #[.agg (spC (S k) (M k)).toArray, .pointer (some ⟨pg, 0, none⟩), .pointer (some ⟨pi, 0, none⟩), .pointer (some ⟨pa, 0, none⟩)] W (SpTo2 (S k) s' (M k) W) := fun W hb => (hC W hb).mono fun _ _ h => h.two
  have hz := ixP_zero
  have hzl := ixP_length Ix.st0 fun _ => .map none
  have hcl := ixP_length S M
  generalize (ixP Ix.st0 fun _ => .map none) = z0 at *
  obtain ⟨w0, hw0⟩ : ∃ w0, w0 = (w.alloc (.cells (ixP S M).toArray 35)).alloc (.cells z0.toArray 35) := ⟨_, rfl⟩
  have hB0 : Below w.heap.size w w0 := by rw [hw0]; exact ((Below.refl _ w).alloc (Nat.le_refl _) _).alloc (by simp) _
  have hx0 : IxBox w0 w.heap.size (ixP S M) := by
    rw [hw0]
    exact (Below.heap_alloc _ _ _ (by simp)).trans (heap_alloc_new w _)
  have hr0 : IxBox w0 (w.heap.size + 1) z0 := by
    have h9 := heap_alloc_new (w.alloc (.cells (ixP S M).toArray 35)) (.cells z0.toArray 35)
    rw [World.size_alloc] at h9
    rw [hw0]
    exact h9
  have HRG := Lib.hid (sp_range hx0 hk)
  have HSZ : Hid ((Tryd.prog.info? 32).map (·.size) = some (spC (S k) (M k)).length) := Lib.hid sp_size
  have HB0 := Lib.hid hB0
  have HCC := Lib.hid (cc w0 hB0)
  have HBEH : Hid (∀ ds v' w2, ds = spC s' v' → MapTo w0 w2 (S k) s' (M k) v' → Below w0.heap.size w0 w2 →
      ∃ cs3, cs3.length = 176 ∧ ds.length = 11 ∧ (∀ v ∈ ds, v.oneCell' = true) ∧ (∀ v ∈ cs3, v.oneCell' = true) ∧ w2.there w.heap.size (k * 11) 11 ∧ IxBox (w2.setCells w.heap.size (k * 11) ds) w.heap.size cs3 ∧ IxBox (w2.setCells w.heap.size (k * 11) ds) (w.heap.size + 1) z0 ∧
        WithTo S M k s' w (.returned (.agg cs3.toArray)) ((w2.setCells w.heap.size (k * 11) ds).setCells (w.heap.size + 1) 0 cs3)) := Lib.hid (by
    intro ds v' w2 hds hmt hb2
    have hx2 := hx0.below hb2
    have hr2 := hr0.below hb2
    have hput := sp_put hx2 hk s' v'
    have hone := hmt.one (hM k hk)
    have hw0s : w0.heap.size = w.heap.size + 2 := by rw [hw0]; simp
    refine ⟨ixP (Ix.upd S k s') (updH M k v'), ixP_length _ _, by rw [hds]; rfl, by rw [hds]; exact spC_one s' hone, ixP_one (upd_one hM hone), sp_there hx2 hcl hk, by rw [hds]; exact hput, ?_, v', rfl, ?_, ?_⟩
    · exact ((Else.setCells ds (k * 11) w2 (Else.refl w.heap.size w2)).same _ (by omega)).trans hr2
    · rcases hmt with h | h | ⟨mb, h1, h2, h3⟩
      · exact .inl h
      · exact .inr (.inl h)
      · refine .inr (.inr ⟨mb, h1, by omega, h3.same ?_⟩)
        rw [(Else.setCells _ 0 _ (Else.refl (w.heap.size + 1) _)).same mb (by omega), (Else.setCells ds (k * 11) w2 (Else.refl w.heap.size w2)).same mb (by omega)]
    · exact below_row _ _ _ _ (by omega) (below_row _ _ _ _ (Nat.le_refl _) (hB0.trans (hb2.mono hB0.size))))
  have hds : spV (S k) (M k) = .agg (spC (S k) (M k)).toArray := rfl
  have HZL := Lib.hid hzl
  generalize spC (S k) (M k) = ds0 at *
  generalize ixP S M = cs at *
  have hk0 : (0 : Int) ≤ (k : Int) := by omega
  have hk1 : (k : Int) < 16 := by omega
  clear hB0 hx0 hr0 hds hM hC cc hzl hcl
  subst hw0
  have HIX := Lib.hid ix_size
  go_enter Tryd.func30, Tryd.ntmps30
  go_wp2_with (first
    | (go_at_call 40; (with_reducible refine (cm _).mono ?_); rintro e w3 ⟨rfl, rfl⟩)
    | (refine wpList_load_mid (by rfl) 32 (.tmp 13) (by rfl) w.heap.size (k * 11) (by rfl) ds0 _ HRG.out Tryd.underlying32 (by rfl) HSZ.out ?_)
    | (go_at_call 34; (with_reducible refine HCC.out.mono ?_); rintro e w2 ⟨ds, v', hds, rfl, hmt, hb2⟩; obtain ⟨cs3, h1, h2, h3, h4, h5, h6, h7, h8⟩ := HBEH.out ds v' w2 hds hmt hb2; have HT : Hid (w2.there w.heap.size (k * 11) ds.toArray.size) := Lib.hid (by rw [show ds.toArray.size = 11 from List.size_toArray.trans h2]; exact h5); have HSZ2 : Hid ((Tryd.prog.info? 32).map (·.size) = some ds.toArray.size) := Lib.hid (by rw [show ds.toArray.size = 11 from List.size_toArray.trans h2]; exact sp_size); have HO := Lib.hid (all_oneCell_toArray h3); have HO3 := Lib.hid (all_oneCell_toArray h4); have HX6 := Lib.hid h6.range; have HSZ3 : Hid ((Tryd.prog.info? 35).map (·.size) = some cs3.length) := Lib.hid (by rw [h1]; exact HIX.out); have HSZ4 : Hid ((Tryd.prog.info? 35).map (·.size) = some cs3.toArray.size) := Lib.hid (by rw [show cs3.toArray.size = 176 from List.size_toArray.trans h1]; exact HIX.out); have HT7 : Hid ((w2.setCells w.heap.size (k * 11) ds).there (w.heap.size + 1) 0 cs3.toArray.size) := Lib.hid (by rw [show cs3.toArray.size = 176 from List.size_toArray.trans h1]; exact h7.there HZL.out); have HRES := Lib.hid (h7.put (h1.trans HZL.out.symm)).range; have HL3 := Lib.hid h1; have HEND := Lib.hid h8; clear hds hmt hb2 h1 h2 h3 h4 h5 h6 h7 h8)
    | (refine wpList_store_mid (by rfl) 32 (.tmp 17) (.tmp 15) (by rfl) w.heap.size (k * 11) ds.toArray (by rfl) (by rfl) HT.out HSZ2.out HO.out ?_; rw [List.toList_toArray])
    | (refine wpList_load_mid (by rfl) 35 (.tmp 3) (by rfl) w.heap.size 0 (by rfl) cs3 _ HX6.out Tryd.underlying35 (by rfl) HSZ3.out ?_)
    | (refine wpList_store_mid (by rfl) 35 (.tmp 6) (.tmp 18) (by rfl) (w.heap.size + 1) 0 cs3.toArray (by rfl) (by rfl) HT7.out HSZ4.out HO3.out ?_; rw [List.toList_toArray]))
  exact bodyPost_ret (res_ixwith HL3.out (by rfl) HRES.out) rfl HEND.out
set_option maxHeartbeats 4000000 in
theorem withPiece_no (S : Ix.St) (M : Nat → Value) (hM : ∀ k, k < 16 → (M k).oneCell' = true) (o : Int) (h : Ix.may o = false) (pg pi pa : Nat) (w : World) :
    Calls Tryd.prog 30 #[.agg (ixP S M).toArray, .int .i64 o, .func (.func 34) #[] #[.pointer (some ⟨pg, 0, none⟩), .pointer (some ⟨pi, 0, none⟩), .pointer (some ⟨pa, 0, none⟩)]] w fun e w' => e = .returned (.agg (ixP S M).toArray) ∧ Below w.heap.size w w' := by
  have cm := fun W => mayObj_any o W
  rw [h] at cm
  have hz := ixP_zero
  have hzl := ixP_length Ix.st0 fun _ => .map none
  have hcl := ixP_length S M
  generalize (ixP Ix.st0 fun _ => .map none) = z0 at *
  obtain ⟨w0, hw0⟩ : ∃ w0, w0 = (w.alloc (.cells (ixP S M).toArray 35)).alloc (.cells z0.toArray 35) := ⟨_, rfl⟩
  have hB0 : Below w.heap.size w w0 := by rw [hw0]; exact ((Below.refl _ w).alloc (Nat.le_refl _) _).alloc (by simp) _
  have hx0 : IxBox w0 w.heap.size (ixP S M) := by
    rw [hw0]
    exact (Below.heap_alloc _ _ _ (by simp)).trans (heap_alloc_new w _)
  have hr0 : IxBox w0 (w.heap.size + 1) z0 := by
    have h9 := heap_alloc_new (w.alloc (.cells (ixP S M).toArray 35)) (.cells z0.toArray 35)
    rw [World.size_alloc] at h9
    rw [hw0]
    exact h9
  have HX := Lib.hid hx0.range
  have HSZ3 : Hid ((Tryd.prog.info? 35).map (·.size) = some (ixP S M).length) := Lib.hid (by rw [hcl]; exact ix_size)
  have HSZ4 : Hid ((Tryd.prog.info? 35).map (·.size) = some (ixP S M).toArray.size) := Lib.hid (by rw [show (ixP S M).toArray.size = 176 from List.size_toArray.trans hcl]; exact ix_size)
  have HT : Hid (w0.there (w.heap.size + 1) 0 (ixP S M).toArray.size) := Lib.hid (by rw [show (ixP S M).toArray.size = 176 from List.size_toArray.trans hcl]; exact hr0.there hzl)
  have HO := Lib.hid (all_oneCell_toArray (ixP_one (S := S) hM))
  have HRES := Lib.hid (hr0.put (hcl.trans hzl.symm)).range
  have HBL := Lib.hid (below_row (ixP S M) (w.heap.size + 1) 0 w0 (by omega) hB0)
  have HCL := Lib.hid hcl
  generalize ixP S M = cs at *
  clear hB0 hx0 hr0 hM hzl hcl
  subst hw0
  go_enter Tryd.func30, Tryd.ntmps30
  go_wp2_with (first
    | (go_at_call 40; (with_reducible refine (cm _).mono ?_); rintro e w3 ⟨rfl, rfl⟩)
    | (refine wpList_load_mid (by rfl) 35 (.tmp 3) (by rfl) w.heap.size 0 (by rfl) cs _ HX.out Tryd.underlying35 (by rfl) HSZ3.out ?_)
    | (refine wpList_store_mid (by rfl) 35 (.tmp 6) (.tmp 18) (by rfl) (w.heap.size + 1) 0 cs.toArray (by rfl) (by rfl) HT.out HSZ4.out HO.out ?_; rw [List.toList_toArray]))
  exact bodyPost_ret (res_ixwith HCL.out (by rfl) HRES.out) rfl ⟨rfl, HBL.out⟩
set_option maxHeartbeats 4000000 in
theorem withForget_yes (S : Ix.St) (M : Nat → Value) (hM : ∀ k, k < 16 → (M k).oneCell' = true) (k : Nat) (hk : k < 16) (s' : Ix.Sl) (pg pa : Nat) (w : World)
    (hC : ∀ W, Below w.heap.size w W → Calls Tryd.prog 38 #[spV (S k) (M k), .pointer (some ⟨pg, 0, none⟩), .pointer (some ⟨pa, 0, none⟩)] W (SpTo (S k) s' (M k) W)) :
    Calls Tryd.prog 30 #[.agg (ixP S M).toArray, .int .i64 (k : Int), .func (.func 38) #[] #[.pointer (some ⟨pg, 0, none⟩), .pointer (some ⟨pa, 0, none⟩)]] w (WithTo S M k s' w) := by
  have cm := fun W => mayObj_any (k : Int) W
  rw [show Ix.may (k : Int) = true from decide_eq_true (by omega)] at cm
  have cc : ∀ W, Below w.heap.size w W → Calls Tryd.prog 38 #[.agg (spC (S k) (M k)).toArray, .pointer (some ⟨pg, 0, none⟩), .pointer (some ⟨pa, 0, none⟩)] W (SpTo2 (S k) s' (M k) W) := fun W hb => (hC W hb).mono fun _ _ h => h.two
  have hz := ixP_zero
  have hzl := ixP_length Ix.st0 fun _ => .map none
  have hcl := ixP_length S M
  generalize (ixP Ix.st0 fun _ => .map none) = z0 at *
  obtain ⟨w0, hw0⟩ : ∃ w0, w0 = (w.alloc (.cells (ixP S M).toArray 35)).alloc (.cells z0.toArray 35) := ⟨_, rfl⟩
  have hB0 : Below w.heap.size w w0 := by rw [hw0]; exact ((Below.refl _ w).alloc (Nat.le_refl _) _).alloc (by simp) _
  have hx0 : IxBox w0 w.heap.size (ixP S M) := by
    rw [hw0]
    exact (Below.heap_alloc _ _ _ (by simp)).trans (heap_alloc_new w _)
  have hr0 : IxBox w0 (w.heap.size + 1) z0 := by
    have h9 := heap_alloc_new (w.alloc (.cells (ixP S M).toArray 35)) (.cells z0.toArray 35)
    rw [World.size_alloc] at h9
    rw [hw0]
    exact h9
  have HRG := Lib.hid (sp_range hx0 hk)
  have HSZ : Hid ((Tryd.prog.info? 32).map (·.size) = some (spC (S k) (M k)).length) := Lib.hid sp_size
  have HB0 := Lib.hid hB0
  have HCC := Lib.hid (cc w0 hB0)
  have HBEH : Hid (∀ ds v' w2, ds = spC s' v' → MapTo w0 w2 (S k) s' (M k) v' → Below w0.heap.size w0 w2 →
      ∃ cs3, cs3.length = 176 ∧ ds.length = 11 ∧ (∀ v ∈ ds, v.oneCell' = true) ∧ (∀ v ∈ cs3, v.oneCell' = true) ∧ w2.there w.heap.size (k * 11) 11 ∧ IxBox (w2.setCells w.heap.size (k * 11) ds) w.heap.size cs3 ∧ IxBox (w2.setCells w.heap.size (k * 11) ds) (w.heap.size + 1) z0 ∧
        WithTo S M k s' w (.returned (.agg cs3.toArray)) ((w2.setCells w.heap.size (k * 11) ds).setCells (w.heap.size + 1) 0 cs3)) := Lib.hid (by
    intro ds v' w2 hds hmt hb2
    have hx2 := hx0.below hb2
    have hr2 := hr0.below hb2
    have hput := sp_put hx2 hk s' v'
    have hone := hmt.one (hM k hk)
    have hw0s : w0.heap.size = w.heap.size + 2 := by rw [hw0]; simp
    refine ⟨ixP (Ix.upd S k s') (updH M k v'), ixP_length _ _, by rw [hds]; rfl, by rw [hds]; exact spC_one s' hone, ixP_one (upd_one hM hone), sp_there hx2 hcl hk, by rw [hds]; exact hput, ?_, v', rfl, ?_, ?_⟩
    · exact ((Else.setCells ds (k * 11) w2 (Else.refl w.heap.size w2)).same _ (by omega)).trans hr2
    · rcases hmt with h | h | ⟨mb, h1, h2, h3⟩
      · exact .inl h
      · exact .inr (.inl h)
      · refine .inr (.inr ⟨mb, h1, by omega, h3.same ?_⟩)
        rw [(Else.setCells _ 0 _ (Else.refl (w.heap.size + 1) _)).same mb (by omega), (Else.setCells ds (k * 11) w2 (Else.refl w.heap.size w2)).same mb (by omega)]
    · exact below_row _ _ _ _ (by omega) (below_row _ _ _ _ (Nat.le_refl _) (hB0.trans (hb2.mono hB0.size))))
  have hds : spV (S k) (M k) = .agg (spC (S k) (M k)).toArray := rfl
  have HZL := Lib.hid hzl
  generalize spC (S k) (M k) = ds0 at *
  generalize ixP S M = cs at *
  have hk0 : (0 : Int) ≤ (k : Int) := by omega
  have hk1 : (k : Int) < 16 := by omega
  clear hB0 hx0 hr0 hds hM hC cc hzl hcl
  subst hw0
  have HIX := Lib.hid ix_size
  go_enter Tryd.func30, Tryd.ntmps30
  go_wp2_with (first
    | (go_at_call 40; (with_reducible refine (cm _).mono ?_); rintro e w3 ⟨rfl, rfl⟩)
    | (refine wpList_load_mid (by rfl) 32 (.tmp 13) (by rfl) w.heap.size (k * 11) (by rfl) ds0 _ HRG.out Tryd.underlying32 (by rfl) HSZ.out ?_)
    | (go_at_call 38; (with_reducible refine HCC.out.mono ?_); rintro e w2 ⟨ds, v', hds, rfl, hmt, hb2⟩; obtain ⟨cs3, h1, h2, h3, h4, h5, h6, h7, h8⟩ := HBEH.out ds v' w2 hds hmt hb2; have HT : Hid (w2.there w.heap.size (k * 11) ds.toArray.size) := Lib.hid (by rw [show ds.toArray.size = 11 from List.size_toArray.trans h2]; exact h5); have HSZ2 : Hid ((Tryd.prog.info? 32).map (·.size) = some ds.toArray.size) := Lib.hid (by rw [show ds.toArray.size = 11 from List.size_toArray.trans h2]; exact sp_size); have HO := Lib.hid (all_oneCell_toArray h3); have HO3 := Lib.hid (all_oneCell_toArray h4); have HX6 := Lib.hid h6.range; have HSZ3 : Hid ((Tryd.prog.info? 35).map (·.size) = some cs3.length) := Lib.hid (by rw [h1]; exact HIX.out); have HSZ4 : Hid ((Tryd.prog.info? 35).map (·.size) = some cs3.toArray.size) := Lib.hid (by rw [show cs3.toArray.size = 176 from List.size_toArray.trans h1]; exact HIX.out); have HT7 : Hid ((w2.setCells w.heap.size (k * 11) ds).there (w.heap.size + 1) 0 cs3.toArray.size) := Lib.hid (by rw [show cs3.toArray.size = 176 from List.size_toArray.trans h1]; exact h7.there HZL.out); have HRES := Lib.hid (h7.put (h1.trans HZL.out.symm)).range; have HL3 := Lib.hid h1; have HEND := Lib.hid h8; clear hds hmt hb2 h1 h2 h3 h4 h5 h6 h7 h8)
    | (refine wpList_store_mid (by rfl) 32 (.tmp 17) (.tmp 15) (by rfl) w.heap.size (k * 11) ds.toArray (by rfl) (by rfl) HT.out HSZ2.out HO.out ?_; rw [List.toList_toArray])
    | (refine wpList_load_mid (by rfl) 35 (.tmp 3) (by rfl) w.heap.size 0 (by rfl) cs3 _ HX6.out Tryd.underlying35 (by rfl) HSZ3.out ?_)
    | (refine wpList_store_mid (by rfl) 35 (.tmp 6) (.tmp 18) (by rfl) (w.heap.size + 1) 0 cs3.toArray (by rfl) (by rfl) HT7.out HSZ4.out HO3.out ?_; rw [List.toList_toArray]))
  exact bodyPost_ret (res_ixwith HL3.out (by rfl) HRES.out) rfl HEND.out
set_option maxHeartbeats 4000000 in
theorem withForget_no (S : Ix.St) (M : Nat → Value) (hM : ∀ k, k < 16 → (M k).oneCell' = true) (o : Int) (h : Ix.may o = false) (pg pa : Nat) (w : World) :
    Calls Tryd.prog 30 #[.agg (ixP S M).toArray, .int .i64 o, .func (.func 38) #[] #[.pointer (some ⟨pg, 0, none⟩), .pointer (some ⟨pa, 0, none⟩)]] w fun e w' => e = .returned (.agg (ixP S M).toArray) ∧ Below w.heap.size w w' := by
  have cm := fun W => mayObj_any o W
  rw [h] at cm
  have hz := ixP_zero
  have hzl := ixP_length Ix.st0 fun _ => .map none
  have hcl := ixP_length S M
  generalize (ixP Ix.st0 fun _ => .map none) = z0 at *
  obtain ⟨w0, hw0⟩ : ∃ w0, w0 = (w.alloc (.cells (ixP S M).toArray 35)).alloc (.cells z0.toArray 35) := ⟨_, rfl⟩
  have hB0 : Below w.heap.size w w0 := by rw [hw0]; exact ((Below.refl _ w).alloc (Nat.le_refl _) _).alloc (by simp) _
  have hx0 : IxBox w0 w.heap.size (ixP S M) := by
    rw [hw0]
    exact (Below.heap_alloc _ _ _ (by simp)).trans (heap_alloc_new w _)
  have hr0 : IxBox w0 (w.heap.size + 1) z0 := by
    have h9 := heap_alloc_new (w.alloc (.cells (ixP S M).toArray 35)) (.cells z0.toArray 35)
    rw [World.size_alloc] at h9
    rw [hw0]
    exact h9
  have HX := Lib.hid hx0.range
  have HSZ3 : Hid ((Tryd.prog.info? 35).map (·.size) = some (ixP S M).length) := Lib.hid (by rw [hcl]; exact ix_size)
  have HSZ4 : Hid ((Tryd.prog.info? 35).map (·.size) = some (ixP S M).toArray.size) := Lib.hid (by rw [show (ixP S M).toArray.size = 176 from List.size_toArray.trans hcl]; exact ix_size)
  have HT : Hid (w0.there (w.heap.size + 1) 0 (ixP S M).toArray.size) := Lib.hid (by rw [show (ixP S M).toArray.size = 176 from List.size_toArray.trans hcl]; exact hr0.there hzl)
  have HO := Lib.hid (all_oneCell_toArray (ixP_one (S := S) hM))
  have HRES := Lib.hid (hr0.put (hcl.trans hzl.symm)).range
  have HBL := Lib.hid (below_row (ixP S M) (w.heap.size + 1) 0 w0 (by omega) hB0)
  have HCL := Lib.hid hcl
  generalize ixP S M = cs at *
  clear hB0 hx0 hr0 hM hzl hcl
  subst hw0
  go_enter Tryd.func30, Tryd.ntmps30
  go_wp2_with (first
    | (go_at_call 40; (with_reducible refine (cm _).mono ?_); rintro e w3 ⟨rfl, rfl⟩)
    | (refine wpList_load_mid (by rfl) 35 (.tmp 3) (by rfl) w.heap.size 0 (by rfl) cs _ HX.out Tryd.underlying35 (by rfl) HSZ3.out ?_)
    | (refine wpList_store_mid (by rfl) 35 (.tmp 6) (.tmp 18) (by rfl) (w.heap.size + 1) 0 cs.toArray (by rfl) (by rfl) HT.out HSZ4.out HO.out ?_; rw [List.toList_toArray]))
  exact bodyPost_ret (res_ixwith HCL.out (by rfl) HRES.out) rfl ⟨rfl, HBL.out⟩
end Go.Proofs.YtcmhodimkpkmbaaDoor
