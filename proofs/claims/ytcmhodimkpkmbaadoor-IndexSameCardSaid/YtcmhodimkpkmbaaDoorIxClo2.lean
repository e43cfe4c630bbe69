/-
  The closure that Forget hands over: what it makes of a slot.
-/
import Derived.Test.YtcmhodimkpkmbaaDoorIxClo
import Derived.Deep.DeepCutAuto
namespace Go.Proofs.YtcmhodimkpkmbaaDoor
open Go.ChangeShapes Go.WideShapes Go.ChangeAt Go.RowKit
set_option maxRecDepth 100000

theorem fgt1_old {s : Ix.Sl} (h : Ix.Ok1 s) {gen : Int} (a : Ix.Ad) (hg : gen ≤ 0 ∨ gen < s.fl) : Ix.fgt1 s gen a = s := by
  have h0 := h.fl0
  unfold Ix.fgt1
  simp only [if_neg (show ¬ (0 < gen ∧ s.fl ≤ gen) by omega)]
  rw [if_neg]
  rintro ⟨h1, h2⟩
  have := h.above h1
  omega
theorem fgt1_gone {s : Ix.Sl} (h : Ix.Ok1 s) {gen : Int} (a : Ix.Ad) (h1 : 0 < gen) (h2 : s.fl ≤ gen) (h3 : s.bind.gen ≤ gen) : Ix.fgt1 s gen a = ⟨false, Ix.bd0, (0, 0), [], gen, a⟩ := by
  unfold Ix.fgt1
  simp only [if_pos (show 0 < gen ∧ s.fl ≤ gen from ⟨h1, h2⟩)]
  cases hb : s.b
  · obtain ⟨e1, e2, e3⟩ := h.none hb
    rw [if_neg (by simp), e1, e2, e3]
  · rw [if_pos ⟨rfl, h3⟩]
theorem fgt1_kept {s : Ix.Sl} {gen : Int} (a : Ix.Ad) (h1 : 0 < gen) (h2 : s.fl ≤ gen) (h3 : gen < s.bind.gen) : Ix.fgt1 s gen a = { s with fl := gen, tomb := a } := by
  unfold Ix.fgt1
  simp only [if_pos (show 0 < gen ∧ s.fl ≤ gen from ⟨h1, h2⟩)]
  rw [if_neg]
  rintro ⟨_, h4⟩
  omega
theorem res_forgetC {U : World} {tm : Array Value} {q : Nat} {s : Ix.Sl} {v : Value} (h4 : tm.getD 4 undef = .pointer (some ⟨q, 0, none⟩)) (hr : U.rangeAt q 0 (spC s v)) :
    (results Tryd.f38 tm).run Tryd.prog U = .ok (spV s v) U := by
  have h5 : tm[4]?.getD undef = .pointer (some ⟨q, 0, none⟩) := by simpa using h4
  have hl := run_loadVar_mid (P := Tryd.prog) U q 0 32 (spC s v) _ hr Tryd.underlying32 (by rfl) sp_size
  simp [results, Tryd.results38, h5, asAddr, hl]
  rfl
abbrev intO (x : Int) : Obj := .cells #[.int .i64 x] 3
theorem cells1 {W : World} {p : Nat} {T : TypeId} {x0 : Value} (h : W.heap[p]? = some (.cells #[x0] T (0, 0))) : W.cell? ⟨p, 0, none⟩ = some x0 := cells_at (C := [x0]) h 0
set_option maxHeartbeats 2000000 in
theorem forgetC_any {s : Ix.Sl} (h : Ix.Ok1 s) (v : Value) (hv : v.oneCell' = true) (gen : Int) (a : Ix.Ad) (w : World) (pg pa : Nat) (hg : w.heap[pg]? = some (intO gen)) (ha : w.heap[pa]? = some (adO a)) :
    Calls Tryd.prog 38 #[spV s v, .pointer (some ⟨pg, 0, none⟩), .pointer (some ⟨pa, 0, none⟩)] w (SpTo s (Ix.fgt1 s gen a) v w) := by
  obtain ⟨p, hp⟩ : ∃ p, p = w.heap.size := ⟨_, rfl⟩
  obtain ⟨w0, hw0⟩ : ∃ w0, w0 = (w.alloc (spO s v)).alloc zO := ⟨_, rfl⟩
  have hB0 : Below w.heap.size w w0 := by rw [hw0]; exact ((Below.refl _ w).alloc (Nat.le_refl _) _).alloc (by simp) _
  have hp0 : w0.heap[p]? = some (spO s v) := by
    rw [hw0, hp]
    exact (Below.heap_alloc _ _ _ (by simp)).trans (heap_alloc_new w _)
  have hz0 : w0.heap[p + 1]? = some zO := by
    have h9 := heap_alloc_new (w.alloc (spO s v)) zO
    rw [World.size_alloc] at h9
    rw [hw0, hp]
    exact h9
  have hpg := (hB0.block pg (lt_of_at hg)).trans hg
  have hpa := (hB0.block pa (lt_of_at ha)).trans ha
  have HN1 := Lib.hid (fun (h1 : gen ≤ 0 ∨ gen < s.fl) => fgt1_old h a h1)
  have HN2 := Lib.hid (fun (h1 : 0 < gen) (h2 : s.fl ≤ gen) (h3 : s.bind.gen ≤ gen) => fgt1_gone h a h1 h2 h3)
  have HN3 := Lib.hid (fun (h1 : 0 < gen) (h2 : s.fl ≤ gen) (h3 : gen < s.bind.gen) => fgt1_kept (s := s) a h1 h2 h3)
  obtain ⟨sn, hsn⟩ : ∃ sn, sn = Ix.fgt1 s gen a := ⟨_, rfl⟩
  rw [← hsn] at HN1 HN2 HN3 ⊢
  have HB0 := Lib.hid hB0
  have HP := Lib.hid hp
  have HV := Lib.hid hv
  have HPL : Hid (w.heap.size ≤ p + 1) := Lib.hid (by omega)
  have HQ0 := Lib.hid hp0
  obtain ⟨c0, c1, c2, c3, c4, c5, c6, c7, c8, c9, c10⟩ := cells11 hp0
  have b0 := cells1 hpg
  obtain ⟨z0, z1⟩ := cells2 hpa
  have f8 := frozen0 hp0 8
  have f9 := frozen0 hp0 9
  have f10 := frozen0 hp0 10
  have HZ0 : Hid (w0.heap[p + 1]? = some zO) := Lib.hid hz0
  have HT := Lib.hid (zO_there HZ0.out)
  have HFAC : Hid (∃ w0 p, w0 = (w.alloc (spO s v)).alloc zO ∧ p = w.heap.size ∧ w0.heap[p]? = some (spO s v) ∧ w0.heap[p + 1]? = some zO ∧ w0.heap[pg]? = some (intO gen) ∧ w0.heap[pa]? = some (adO a)) := Lib.hid ⟨w0, p, hw0, hp, hp0, hz0, hpg, hpa⟩
  clear hB0 hp0 hz0 hpg hpa hsn h hv hg ha
  obtain ⟨sb, ⟨so, sg, stg, sln, stk⟩, ⟨s1, s2⟩, sl, fl, ⟨t1, t2⟩⟩ := s
  obtain ⟨a1, a2⟩ := a
  dsimp only at c0 c1 c2 c3 c4 c5 c6 c7 c8 c9 c10 z0 z1 HN1 HN2 HN3 HQ0 HFAC
  have hold : ∀ (h1 : gen ≤ 0 ∨ gen < fl), SpTo ⟨sb, ⟨so, sg, stg, sln, stk⟩, (s1, s2), sl, fl, (t1, t2)⟩ sn v w (.returned (spV ⟨sb, ⟨so, sg, stg, sln, stk⟩, (s1, s2), sl, fl, (t1, t2)⟩ v)) (w0.setCells (p + 1) 0 (spC ⟨sb, ⟨so, sg, stg, sln, stk⟩, (s1, s2), sl, fl, (t1, t2)⟩ v)) := fun h1 => by
    rw [HN1.out h1]
    exact ⟨v, rfl, .inl ⟨rfl, rfl⟩, below_row _ _ _ _ HPL.out HB0.out⟩
  have HOLD := Lib.hid hold
  have HR := Lib.hid (sp_out HZ0.out ⟨sb, ⟨so, sg, stg, sln, stk⟩, (s1, s2), sl, fl, (t1, t2)⟩ v)
  have HO1 := Lib.hid (all_oneCell_toArray (spC_one ⟨sb, ⟨so, sg, stg, sln, stk⟩, (s1, s2), sl, fl, (t1, t2)⟩ HV.out))
  clear hold c0 c1 c2 c3 c4 c5 c6 c7 c8 c9 c10 f8 f9 f10
  subst hp
  subst hw0
  dsimp only [spO, zO] at b0 z0 z1
  by_cases h1 : gen ≤ 0
  · have q1 : decide (gen ≤ 0) = true := decide_eq_true h1
    have HH := Lib.hid (HOLD.out (.inl h1))
    clear h1
    go_enter Tryd.func38, Tryd.ntmps38
    go_wp2_with (refine wpList_store_mid (by rfl) 32 (.tmp 4) (.tmp 14) (by rfl) (w.heap.size + 1) 0 #[.int .i64 so, .int .i64 sg, .string stg, .int .i64 sln, .int .i64 stk, v, .int .i64 s1, .int .i64 s2, .int .i64 fl, .int .i64 t1, .int .i64 t2] (by rfl) (by rfl) HT.out sp_size HO1.out ?_)
    exact bodyPost_ret (res_forgetC (by rfl) HR.out) rfl HH.out
  · by_cases h2 : gen < fl
    · have q1 : decide (gen ≤ 0) = false := decide_eq_false h1
      have q2 : decide (gen < fl) = true := decide_eq_true h2
      have HH := Lib.hid (HOLD.out (.inr h2))
      clear h1 h2
      go_enter Tryd.func38, Tryd.ntmps38
      go_wp2_with (refine wpList_store_mid (by rfl) 32 (.tmp 4) (.tmp 14) (by rfl) (w.heap.size + 1) 0 #[.int .i64 so, .int .i64 sg, .string stg, .int .i64 sln, .int .i64 stk, v, .int .i64 s1, .int .i64 s2, .int .i64 fl, .int .i64 t1, .int .i64 t2] (by rfl) (by rfl) HT.out sp_size HO1.out ?_)
      exact bodyPost_ret (res_forgetC (by rfl) HR.out) rfl HH.out
    · by_cases h3 : sg ≤ gen
      · have q1 : decide (gen ≤ 0) = false := decide_eq_false h1
        have q2 : decide (gen < fl) = false := decide_eq_false h2
        have q3 : decide (sg ≤ gen) = true := decide_eq_true h3
        have HE := Lib.hid (HN2.out (by omega) (by omega) h3)
        have HO2 := Lib.hid (all_oneCell_toArray (spC_one ⟨false, Ix.bd0, (0, 0), [], gen, (a1, a2)⟩ (v := .map none) rfl))
        clear h1 h2 h3
        go_enter Tryd.func38, Tryd.ntmps38
        go_wp2_with (refine wpList_store_mid (by rfl) 32 (.tmp 4) (.tmp 24) (by rfl) (w.heap.size + 1) 0 #[.int .i64 0, .int .i64 0, .string ⟨#[]⟩, .int .i64 0, .int .i64 0, .map none, .int .i64 0, .int .i64 0, .int .i64 gen, .int .i64 a1, .int .i64 a2] (by rfl) (by rfl) HT.out sp_size HO2.out ?_)
        refine bodyPost_ret (res_forgetC (s := ⟨false, Ix.bd0, (0, 0), [], gen, (a1, a2)⟩) (v := .map none) (by rfl) (sp_out HZ0.out ⟨false, Ix.bd0, (0, 0), [], gen, (a1, a2)⟩ (.map none))) rfl ⟨.map none, ?_, .inr (.inl ⟨rfl, ?_⟩), ?_⟩
        · rw [HE.out]
        · rw [HE.out]
        · exact below_row _ _ _ _ HPL.out HB0.out
      · have q1 : decide (gen ≤ 0) = false := decide_eq_false h1
        have q2 : decide (gen < fl) = false := decide_eq_false h2
        have q3 : decide (sg ≤ gen) = false := decide_eq_false h3
        have HE := Lib.hid (HN3.out (by omega) (by omega) (by omega))
        clear h1 h2 h3
        go_enter Tryd.func38, Tryd.ntmps38
        go_wp2_with fail
        obtain ⟨w0, p, hw0, hp, hp0, hz0, hpg, hpa⟩ := HFAC.out
        dsimp only [spO, zO] at hw0
        have HB9 : Hid (Below w.heap.size w w0) := Lib.hid (by rw [hw0]; exact ((Below.refl _ w).alloc (Nat.le_refl _) _).alloc (by simp) _)
        have HPL9 : Hid (w.heap.size ≤ p + 1) := Lib.hid (by omega)
        rw [← hw0, ← hp]
        have HP9 := Lib.hid hp
        obtain ⟨x0, x1, x2, x3, x4, x5, x6, x7, x8, x9, x10⟩ := cells11 hp0
        have y0 := cells1 hpg
        obtain ⟨y1, y2⟩ := cells2 hpa
        have f8 := frozen0 hp0 8
        have f9 := frozen0 hp0 9
        have f10 := frozen0 hp0 10
        clear hw0 hp HOLD HR HT HQ0 HZ0 HB0 b0 z0 z1
        go_region
        obtain ⟨w3, hw3⟩ : ∃ w3, w3 = (((w0.setCell ⟨p, 8, none⟩ (.int .i64 gen)).setCell ⟨p, 9, none⟩ (.int .i64 a1)).setCell ⟨p, 10, none⟩ (.int .i64 a2)).drew := ⟨_, rfl⟩
        have hq3 : w3.heap[p]? = some (spO ⟨sb, ⟨so, sg, stg, sln, stk⟩, (s1, s2), sl, gen, (a1, a2)⟩ v) := by
          rw [hw3]
          exact cells_set (cells_set (cells_set (C := [.int .i64 so, .int .i64 sg, .string stg, .int .i64 sln, .int .i64 stk, v, .int .i64 s1, .int .i64 s2, .int .i64 fl, .int .i64 t1, .int .i64 t2]) hp0 8 (.int .i64 gen)) 9 (.int .i64 a1)) 10 (.int .i64 a2)
        have HZ3 : Hid (w3.heap[p + 1]? = some zO) := Lib.hid (by
          rw [hw3]
          exact ((Below.heap_setCell _ ⟨p, 10, none⟩ _ _ (by simp)).trans ((Below.heap_setCell _ ⟨p, 9, none⟩ _ _ (by simp)).trans (Below.heap_setCell _ ⟨p, 8, none⟩ _ _ (by simp)))).trans hz0)
        have HBW3 : Hid (Below w.heap.size w w3) := Lib.hid (by
          have h9 := HP9.out
          rw [hw3]
          exact (((HB9.out.setCell (by simp; omega) _).setCell (by simp; omega) _).setCell (by simp; omega) _).drew)
        rw [← hw3]
        clear hw3 x0 x1 x2 x3 x4 x5 x6 x7 x8 x9 x10 f8 f9 f10 y0 y1 y2
        obtain ⟨d0, d1, d2, d3, d4, d5, d6, d7, d8, d9, d10⟩ := cells11 hq3
        have HT3 := Lib.hid (zO_there HZ3.out)
        have HO3 := Lib.hid (all_oneCell_toArray (spC_one ⟨sb, ⟨so, sg, stg, sln, stk⟩, (s1, s2), sl, gen, (a1, a2)⟩ HV.out))
        clear hq3
        go_wp2_with (refine wpList_store_mid (by rfl) 32 (.tmp 4) (.tmp 29) (by rfl) (p + 1) 0 #[.int .i64 so, .int .i64 sg, .string stg, .int .i64 sln, .int .i64 stk, v, .int .i64 s1, .int .i64 s2, .int .i64 gen, .int .i64 a1, .int .i64 a2] (by rfl) (by rfl) HT3.out sp_size HO3.out ?_)
        refine bodyPost_ret (res_forgetC (s := ⟨sb, ⟨so, sg, stg, sln, stk⟩, (s1, s2), sl, gen, (a1, a2)⟩) (v := v) (by rfl) (sp_out HZ3.out ⟨sb, ⟨so, sg, stg, sln, stk⟩, (s1, s2), sl, gen, (a1, a2)⟩ v)) rfl ⟨v, ?_, .inl ⟨rfl, ?_⟩, ?_⟩
        · rw [HE.out]
        · rw [HE.out]
        · exact below_row _ _ _ _ HPL9.out HBW3.out
end Go.Proofs.YtcmhodimkpkmbaaDoor
