/-
  The program's index as it lies: sixteen slots of eleven cells; of.
-/
import Derived.Test.YtcmhodimkpkmbaaDoorIxClo3
import Derived.Test.YtcmhodimkpkmbaaDoorIxMade
namespace Go.Proofs.YtcmhodimkpkmbaaDoor
open Go.ChangeShapes Go.WideShapes Go.ChangeAt Go.RowKit
set_option maxRecDepth 100000

theorem spC_length (s : Ix.Sl) (v : Value) : (spC s v).length = 11 := rfl
def ixP (S : Ix.St) (M : Nat → Value) : List Value := rows (fun k => spC (S k) (M k)) 16
theorem ixP_length (S : Ix.St) (M : Nat → Value) : (ixP S M).length = 176 := rows_length (m := 11) (fun _ => rfl) 16
theorem ixP_one {S : Ix.St} {M : Nat → Value} (h : ∀ k, k < 16 → (M k).oneCell' = true) : ∀ v ∈ ixP S M, v.oneCell' = true := by
  intro v hv
  unfold ixP rows at hv
  obtain ⟨k, hk, hv⟩ := List.mem_flatMap.1 hv
  exact spC_one _ (h k (by simpa using hk)) v hv
theorem ix_size : (Tryd.prog.info? 35).map (·.size) = some 176 := by kernel_rfl
theorem ixP_zero (W : World) : (zeroValue 35).run Tryd.prog W = .ok (.agg (ixP Ix.st0 fun _ => .map none).toArray) W := by kernel_rfl
theorem sp_range {W : World} {b : Nat} {S : Ix.St} {M : Nat → Value} (h : IxBox W b (ixP S M)) {k : Nat} (hk : k < 16) : W.rangeAt b (k * 11) (spC (S k) (M k)) := by
  intro j v hj
  have hl := (List.getElem?_eq_some_iff.1 hj).1
  rw [cells_at h, show (ixP S M)[k * 11 + j]? = (spC (S k) (M k))[j]? from rows_get (m := 11) (fun _ => rfl) hk (by rwa [spC_length] at hl)]
  exact hj
theorem sp_there {W : World} {b : Nat} {cs : List Value} (h : IxBox W b cs) (hl : cs.length = 176) {k : Nat} (hk : k < 16) : W.there b (k * 11) 11 := fun j hj => by
  rw [cells_at h]
  exact ⟨by rw [List.getElem?_eq_getElem (by omega)]; rfl, cells_frozen h _⟩
theorem sp_put {W : World} {b : Nat} {S : Ix.St} {M : Nat → Value} (h : IxBox W b (ixP S M)) {k : Nat} (hk : k < 16) (s : Ix.Sl) (v : Value) :
    IxBox (W.setCells b (k * 11) (spC s v)) b (ixP (Ix.upd S k s) (updH M k v)) := by
  obtain ⟨r, h1, h2⟩ := rows_parts (m := 11) (f := fun j => spC (S j) (M j)) (fun _ => rfl) 16 hk
  have e1 : (fun j => spC (Ix.upd S k s j) (updH M k v j)) k = spC s v := by simp [Ix.upd, updH]
  have e2 : ∀ i, i ≠ k → (fun j => spC (Ix.upd S k s j) (updH M k v j)) i = (fun j => spC (S j) (M j)) i := fun i hi => by simp [Ix.upd, updH, hi]
  have h3 := h2 _ e2
  have hl : (rows (fun j => spC (S j) (M j)) k).length = k * 11 := rows_length (m := 11) (fun _ => rfl) k
  unfold IxBox ixP at h ⊢
  rw [h1] at h
  dsimp only at e1
  rw [h3, e1, ← hl]
  exact setCells_mid b _ (spC s v) (spC (S k) (M k)) _ _ W rfl h
theorem res_ixof {U : World} {tm : Array Value} {q : Nat} {ds : List Value} (hd : ds.length = 11) (h4 : tm.getD 4 undef = .pointer (some ⟨q, 0, none⟩)) (hr : U.rangeAt q 0 ds) :
    (results Tryd.f21 tm).run Tryd.prog U = .ok (.agg ds.toArray) U := by
  have h5 : tm[4]?.getD undef = .pointer (some ⟨q, 0, none⟩) := by simpa using h4
  have hl := run_loadVar_mid (P := Tryd.prog) U q 0 32 ds _ hr Tryd.underlying32 (by rfl) (by rw [hd]; exact sp_size)
  simp [results, Tryd.results21, h5, asAddr, hl]
set_option maxHeartbeats 2000000 in
theorem of_yes (S : Ix.St) (M : Nat → Value) (hM : ∀ k, k < 16 → (M k).oneCell' = true) (k : Nat) (hk : k < 16) (w : World) :
    Calls Tryd.prog 21 #[.agg (ixP S M).toArray, .int .i64 (k : Int)] w fun e w' => e = .returned (spV (S k) (M k)) ∧ Below w.heap.size w w' := by
  have cm := fun W => mayObj_any (k : Int) W
  rw [show Ix.may (k : Int) = true from decide_eq_true (by omega)] at cm
  obtain ⟨w0, hw0⟩ : ∃ w0, w0 = (w.alloc (.cells (ixP S M).toArray 35)).alloc zO := ⟨_, rfl⟩
  have hB0 : Below w.heap.size w w0 := by rw [hw0]; exact ((Below.refl _ w).alloc (Nat.le_refl _) _).alloc (by simp) _
  have hx0 : IxBox w0 w.heap.size (ixP S M) := by
    rw [hw0]
    exact (Below.heap_alloc _ _ _ (by simp)).trans (heap_alloc_new w _)
  have hz0 : w0.heap[w.heap.size + 1]? = some zO := by
    have h9 := heap_alloc_new (w.alloc (.cells (ixP S M).toArray 35)) zO
    rw [World.size_alloc] at h9
    rw [hw0]
    exact h9
  have HRG := Lib.hid (sp_range hx0 hk)
  have HT : Hid (w0.there (w.heap.size + 1) 0 (spC (S k) (M k)).toArray.size) := Lib.hid (zO_there hz0)
  have HSZ : Hid ((Tryd.prog.info? 32).map (·.size) = some (spC (S k) (M k)).length) := Lib.hid sp_size
  have HSZ2 : Hid ((Tryd.prog.info? 32).map (·.size) = some (spC (S k) (M k)).toArray.size) := Lib.hid sp_size
  have HO := Lib.hid (all_oneCell_toArray (spC_one (S k) (hM k hk)))
  have HRES : Hid ((w0.setCells (w.heap.size + 1) 0 (spC (S k) (M k))).rangeAt (w.heap.size + 1) 0 (spC (S k) (M k))) := Lib.hid (sp_out hz0 _ _)
  have HBL := Lib.hid (below_row (spC (S k) (M k)) (w.heap.size + 1) 0 w0 (by omega) hB0)
  have hds : spV (S k) (M k) = .agg (spC (S k) (M k)).toArray := rfl
  rw [hds]
  have hdl : (spC (S k) (M k)).length = 11 := rfl
  have HDL := Lib.hid hdl
  generalize spC (S k) (M k) = ds at *
  generalize ixP S M = cs at *
  have hk0 : (0 : Int) ≤ (k : Int) := by omega
  have hk1 : (k : Int) < 16 := by omega
  have HW0 := Lib.hid hw0
  clear hB0 hx0 hz0 hds hM hdl
  subst hw0
  go_enter Tryd.func21, Tryd.ntmps21
  go_wp2_with (first
    | (go_at_call 40; (with_reducible refine (cm _).mono ?_); rintro e w3 ⟨rfl, rfl⟩)
    | (refine wpList_load_mid (by rfl) 32 (.tmp 11) (by rfl) w.heap.size (k * 11) (by rfl) ds _ HRG.out Tryd.underlying32 (by rfl) HSZ.out ?_)
    | (refine wpList_store_mid (by rfl) 32 (.tmp 4) (.tmp 12) (by rfl) (w.heap.size + 1) 0 ds.toArray (by rfl) (by rfl) HT.out HSZ2.out HO.out ?_; rw [List.toList_toArray]))
  exact bodyPost_ret (res_ixof HDL.out (by rfl) HRES.out) rfl ⟨rfl, HBL.out⟩
theorem of_no (cs : List Value) (o : Int) (h : Ix.may o = false) (w : World) :
    Calls Tryd.prog 21 #[.agg cs.toArray, .int .i64 o] w fun e w' => e = .returned (spV Ix.sl0 (.map none)) ∧ Below w.heap.size w w' := by
  have cm := fun W => mayObj_any o W
  rw [h] at cm
  obtain ⟨w0, hw0⟩ : ∃ w0, w0 = (w.alloc (.cells cs.toArray 35)).alloc zO := ⟨_, rfl⟩
  have hB0 : Below w.heap.size w w0 := by rw [hw0]; exact ((Below.refl _ w).alloc (Nat.le_refl _) _).alloc (by simp) _
  have hz0 : w0.heap[w.heap.size + 1]? = some zO := by
    have h9 := heap_alloc_new (w.alloc (.cells cs.toArray 35)) zO
    rw [World.size_alloc] at h9
    rw [hw0]
    exact h9
  have HT := Lib.hid (zO_there hz0)
  have HO := Lib.hid (all_oneCell_toArray (spC_one Ix.sl0 (v := .map none) rfl))
  have HRES := Lib.hid (sp_out hz0 Ix.sl0 (.map none))
  have HBL := Lib.hid (below_row (spC Ix.sl0 (.map none)) (w.heap.size + 1) 0 w0 (by omega) hB0)
  clear hB0 hz0
  subst hw0
  go_enter Tryd.func21, Tryd.ntmps21
  go_wp2_with (first
    | (go_at_call 40; (with_reducible refine (cm _).mono ?_); rintro e w3 ⟨rfl, rfl⟩)
    | (refine wpList_store_mid (by rfl) 32 (.tmp 4) (.tmp 8) (by rfl) (w.heap.size + 1) 0 #[.int .i64 0, .int .i64 0, .string ⟨#[]⟩, .int .i64 0, .int .i64 0, .map none, .int .i64 0, .int .i64 0, .int .i64 0, .int .i64 0, .int .i64 0] (by rfl) (by rfl) HT.out sp_size HO.out ?_))
  exact bodyPost_ret (res_ixof (ds := spC Ix.sl0 (.map none)) rfl (by rfl) HRES.out) rfl ⟨rfl, HBL.out⟩
end Go.Proofs.YtcmhodimkpkmbaaDoor
