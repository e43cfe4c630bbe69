/-
  The closures that Bound, Forget and Piece hand over: what each makes of a slot.
-/
import Derived.Test.YtcmhodimkpkmbaaDoorIxSlot
import Derived.Test.YtcmhodimkpkmbaaDoorIxCopy
import Derived.Deep.RegionHeld3
import Derived.Deep.MidRow
namespace Go.Proofs.YtcmhodimkpkmbaaDoor
open Go.ChangeShapes Go.WideShapes Go.ChangeAt Go.RowKit
set_option maxRecDepth 100000

theorem cells11 {W : World} {p : Nat} {T : TypeId} {x0 x1 x2 x3 x4 x5 x6 x7 x8 x9 x10 : Value} (h : W.heap[p]? = some (.cells #[x0, x1, x2, x3, x4, x5, x6, x7, x8, x9, x10] T (0, 0))) :
    W.cell? ⟨p, 0, none⟩ = some x0 ∧ W.cell? ⟨p, 1, none⟩ = some x1 ∧ W.cell? ⟨p, 2, none⟩ = some x2 ∧ W.cell? ⟨p, 3, none⟩ = some x3 ∧ W.cell? ⟨p, 4, none⟩ = some x4 ∧ W.cell? ⟨p, 5, none⟩ = some x5 ∧ W.cell? ⟨p, 6, none⟩ = some x6 ∧ W.cell? ⟨p, 7, none⟩ = some x7 ∧ W.cell? ⟨p, 8, none⟩ = some x8 ∧ W.cell? ⟨p, 9, none⟩ = some x9 ∧ W.cell? ⟨p, 10, none⟩ = some x10 := by
  have hc := fun j => cells_at (C := [x0, x1, x2, x3, x4, x5, x6, x7, x8, x9, x10]) h j
  exact ⟨hc 0, hc 1, hc 2, hc 3, hc 4, hc 5, hc 6, hc 7, hc 8, hc 9, hc 10⟩
theorem cells5 {W : World} {p : Nat} {T : TypeId} {x0 x1 x2 x3 x4 : Value} (h : W.heap[p]? = some (.cells #[x0, x1, x2, x3, x4] T (0, 0))) :
    W.cell? ⟨p, 0, none⟩ = some x0 ∧ W.cell? ⟨p, 1, none⟩ = some x1 ∧ W.cell? ⟨p, 2, none⟩ = some x2 ∧ W.cell? ⟨p, 3, none⟩ = some x3 ∧ W.cell? ⟨p, 4, none⟩ = some x4 := by
  have hc := fun j => cells_at (C := [x0, x1, x2, x3, x4]) h j
  exact ⟨hc 0, hc 1, hc 2, hc 3, hc 4⟩
theorem cells2 {W : World} {p : Nat} {T : TypeId} {x0 x1 : Value} (h : W.heap[p]? = some (.cells #[x0, x1] T (0, 0))) : W.cell? ⟨p, 0, none⟩ = some x0 ∧ W.cell? ⟨p, 1, none⟩ = some x1 := by
  have hc := fun j => cells_at (C := [x0, x1]) h j
  exact ⟨hc 0, hc 1⟩
theorem below_row {B : Nat} {a : World} : ∀ (vs : List Value) (b o : Nat) (w : World), B ≤ b → Below B a w → Below B a (w.setCells b o vs)
  | [], _, _, _, _, h => h
  | v :: r, b, o, w, hb, h => by
    rw [World.setCells]
    exact below_row r b (o + 1) _ hb (h.setCell hb v)
theorem frozen0 {W : World} {p : Nat} {C : Array Value} {T : TypeId} (h : W.heap[p]? = some (.cells C T (0, 0))) (j : Nat) : W.frozen? ⟨p, j, none⟩ = false := by simp [World.frozen?, h]
theorem lt_of_at {W : World} {p : Nat} {o : Obj} (h : W.heap[p]? = some o) : p < W.heap.size := (Array.getElem?_eq_some_iff.1 h).1
abbrev zO : Obj := .cells #[.int .i64 0, .int .i64 0, .string { data := #[] }, .int .i64 0, .int .i64 0, .map none, .int .i64 0, .int .i64 0, .int .i64 0, .int .i64 0, .int .i64 0] 32
theorem sp_size : (Tryd.prog.info? 32).map (·.size) = some 11 := by kernel_rfl
theorem spC_one (s : Ix.Sl) {v : Value} (hv : v.oneCell' = true) : ∀ u ∈ spC s v, u.oneCell' = true := by
  intro u hu
  simp only [spC, List.mem_cons, List.not_mem_nil, or_false] at hu
  rcases hu with rfl | rfl | rfl | rfl | rfl | rfl | rfl | rfl | rfl | rfl | rfl <;> first | rfl | exact hv
theorem zO_there {W : World} {q : Nat} (h : W.heap[q]? = some zO) : W.there q 0 11 := fun j hj => by
  have hc := cells_at (C := [.int .i64 0, .int .i64 0, .string { data := #[] }, .int .i64 0, .int .i64 0, .map none, .int .i64 0, .int .i64 0, .int .i64 0, .int .i64 0, .int .i64 0]) h j
  rw [Nat.zero_add, hc]
  refine ⟨?_, frozen0 h j⟩
  rw [List.getElem?_eq_getElem (by simpa using hj)]
  rfl
/-- a slot, stored in the result's cell -/
theorem sp_out {W : World} {q : Nat} (h : W.heap[q]? = some zO) (s : Ix.Sl) (v : Value) : (W.setCells q 0 (spC s v)).rangeAt q 0 (spC s v) := World.rangeAt_setCells_same W q 0 (spC s v) (zO_there h)
theorem res_boundC {U : World} {tm : Array Value} {q : Nat} {s : Ix.Sl} {v : Value} (h4 : tm.getD 4 undef = .pointer (some ⟨q, 0, none⟩)) (hr : U.rangeAt q 0 (spC s v)) :
    (results Tryd.f31 tm).run Tryd.prog U = .ok (spV s v) U := by
  have h5 : tm[4]?.getD undef = .pointer (some ⟨q, 0, none⟩) := by simpa using h4
  have hl := run_loadVar_mid (P := Tryd.prog) U q 0 32 (spC s v) _ hr Tryd.underlying32 (by rfl) sp_size
  simp [results, Tryd.results31, h5, asAddr, hl]
  rfl
/-- what a closure on a slot comes to -/
def SpTo (s s' : Ix.Sl) (v : Value) (w : World) (e : Ending) (w' : World) : Prop := ∃ v', e = .returned (spV s' v') ∧ ((v' = v ∧ s'.sl = s.sl) ∨ (v' = .map none ∧ s'.sl = []) ∨ ∃ mb, v' = .map (some mb) ∧ w.heap.size ≤ mb ∧ Mpi w' mb s'.sl) ∧ Below w.heap.size w w'
theorem bnd1_new {s : Ix.Sl} {b : Ix.Bd} (a : Ix.Ad) (hl : lastI s < b.gen) : Ix.bnd1 s b a = ⟨true, b, a, [], s.fl, s.tomb⟩ := by
  unfold lastI at hl
  have h1 : ¬ b.gen ≤ s.fl := by split at hl <;> omega
  have h2 : s.bind.gen < b.gen := by split at hl <;> omega
  unfold Ix.bnd1
  rw [if_neg h1, if_pos (.inr h2)]
theorem bnd1_ren {s : Ix.Sl} (h : Ix.Ok1 s) {b : Ix.Bd} (a : Ix.Ad) (hr : renB s b = true) : Ix.bnd1 s b a = { s with bind := { s.bind with tick := b.tick }, at_ := a } := by
  unfold renB at hr
  rw [Bool.and_eq_true, decide_eq_true_iff] at hr
  obtain ⟨hb, h1, h2, h3, h4⟩ := hr
  have h5 := h.above hb
  unfold Ix.bnd1
  rw [if_neg (by omega), if_neg (by rw [hb]; rintro (h | h); cases h; omega), if_pos ⟨h1, h2, h3, h4⟩]
theorem bnd1_old {s : Ix.Sl} (h : Ix.Ok1 s) {b : Ix.Bd} (a : Ix.Ad) (hl : ¬ lastI s < b.gen) (hr : renB s b = false) : Ix.bnd1 s b a = s := by
  unfold lastI at hl
  have h1 : ¬ (s.fl < b.gen ∧ s.bind.gen < b.gen) := by split at hl <;> omega
  unfold Ix.bnd1
  split
  · rfl
  · rename_i h2
    split
    · rename_i h3
      refine absurd ⟨by omega, ?_⟩ h1
      rcases h3 with h3 | h3
      · have := (h.none h3).1
        rw [this]
        have := h.fl0
        show (0 : Int) < _
        omega
      · exact h3
    · rename_i h3
      split
      · rename_i h4
        have hb : s.b = true := by
          cases hb : s.b
          · exact absurd (.inl hb) h3
          · rfl
        unfold renB at hr
        rw [hb, Bool.true_and, decide_eq_false_iff_not] at hr
        exact absurd h4 hr
      · rfl
set_option maxHeartbeats 2000000 in
theorem boundC_any {s : Ix.Sl} (h : Ix.Ok1 s) (v : Value) (hv : v.oneCell' = true) (b : Ix.Bd) (a : Ix.Ad) (w : World) (pb pa : Nat) (hb : w.heap[pb]? = some (bdO b)) (ha : w.heap[pa]? = some (adO a)) :
    Calls Tryd.prog 31 #[spV s v, .pointer (some ⟨pb, 0, none⟩), .pointer (some ⟨pa, 0, none⟩)] w (SpTo s (Ix.bnd1 s b a) v w) := by
  have cl := fun W => last_any s v W
  have cr := fun W => renewed_any h v b W
  obtain ⟨p, hp⟩ : ∃ p, p = w.heap.size := ⟨_, rfl⟩
  obtain ⟨w0, hw0⟩ : ∃ w0, w0 = (w.alloc (spO s v)).alloc zO := ⟨_, rfl⟩
  have hB0 : Below w.heap.size w w0 := by rw [hw0]; exact ((Below.refl _ w).alloc (Nat.le_refl _) _).alloc (by simp) _
  have hp0 : w0.heap[p]? = some (spO s v) := by
    rw [hw0, hp]
    exact (Below.heap_alloc _ _ _ (by simp)).trans (heap_alloc_new w _)
  have hz0 : w0.heap[p + 1]? = some zO := by
    have h9 := heap_alloc_new (w.alloc (spO s v)) zO
    rw [World.size_alloc] at h9
    rw [hw0, hp]
    exact h9
  have hpb := (hB0.block pb (lt_of_at hb)).trans hb
  have hpa := (hB0.block pa (lt_of_at ha)).trans ha
  obtain ⟨l1, hl1⟩ : ∃ l1, l1 = lastI s := ⟨_, rfl⟩
  obtain ⟨r1, hr1⟩ : ∃ r1, r1 = renB s b := ⟨_, rfl⟩
  rw [← hl1] at cl
  rw [← hr1] at cr
  have HN1 := Lib.hid (fun (h1 : l1 < b.gen) => bnd1_new a (by rw [← hl1]; exact h1))
  have HN2 := Lib.hid (fun (h1 : r1 = true) => bnd1_ren h a (by rw [← hr1]; exact h1))
  have HN3 := Lib.hid (fun (h1 : ¬ l1 < b.gen) (h2 : r1 = false) => bnd1_old h a (by rw [← hl1]; exact h1) (by rw [← hr1]; exact h2))
  obtain ⟨sn, hsn⟩ : ∃ sn, sn = Ix.bnd1 s b a := ⟨_, rfl⟩
  rw [← hsn] at HN1 HN2 HN3 ⊢
  have HB0 := Lib.hid hB0
  have HW0 := Lib.hid hw0
  have HP := Lib.hid hp
  obtain ⟨c0, c1, c2, c3, c4, c5, c6, c7, c8, c9, c10⟩ := cells11 hp0
  obtain ⟨b0, b1, b2, b3, b4⟩ := cells5 hpb
  have HS0 : Hid (w0.heap[p]? = some (spO s v) ∧ w0.heap[p + 1]? = some zO ∧ w0.heap[pb]? = some (bdO b) ∧ w0.heap[pa]? = some (adO a)) := Lib.hid ⟨hp0, hz0, hpb, hpa⟩
  have HV := Lib.hid hv
  clear hB0 hp0 hz0 hpb hpa hsn hl1 hr1 h hv
  obtain ⟨sb, ⟨so, sg, stg, sln, stk⟩, ⟨s1, s2⟩, sl, fl, ⟨t1, t2⟩⟩ := s
  obtain ⟨obj, gen, tag, len, tick⟩ := b
  obtain ⟨a1, a2⟩ := a
  dsimp only at cl cr c0 c1 c2 c3 c4 c5 c6 c7 c8 c9 c10 b0 b1 b2 b3 b4 HN1 HN2 HN3
  go_enter Tryd.func31, Tryd.ntmps31
  go_wp2_with fail
  dsimp only [spO, zO] at hw0
  rw [← hw0, ← hp]
  clear hw0 hp
  have HS1 : ∀ W, Below w0.heap.size w0 W → Hid (W.cell? ⟨p, 0, none⟩ = some (.int .i64 so) ∧ W.cell? ⟨p, 1, none⟩ = some (.int .i64 sg) ∧ W.cell? ⟨p, 2, none⟩ = some (.string stg) ∧ W.cell? ⟨p, 3, none⟩ = some (.int .i64 sln) ∧ W.cell? ⟨p, 4, none⟩ = some (.int .i64 stk) ∧ W.cell? ⟨p, 5, none⟩ = some v ∧ W.cell? ⟨p, 6, none⟩ = some (.int .i64 s1) ∧ W.cell? ⟨p, 7, none⟩ = some (.int .i64 s2) ∧ W.cell? ⟨p, 8, none⟩ = some (.int .i64 fl) ∧ W.cell? ⟨p, 9, none⟩ = some (.int .i64 t1) ∧ W.cell? ⟨p, 10, none⟩ = some (.int .i64 t2) ∧ W.cell? ⟨pb, 1, none⟩ = some (.int .i64 gen)) := fun W hB => by
    obtain ⟨d0, d1, d2, d3, d4, d5, d6, d7, d8, d9, d10⟩ := cells11 ((hB.block p (lt_of_at HS0.out.1)).trans HS0.out.1)
    obtain ⟨e0, e1, e2, e3, e4⟩ := cells5 ((hB.block pb (lt_of_at HS0.out.2.2.1)).trans HS0.out.2.2.1)
    exact Lib.hid ⟨d0, d1, d2, d3, d4, d5, d6, d7, d8, d9, d10, e1⟩
  have HP0 := HS1 w0.drew ((Below.refl _ _).drew)
  go_region_held3 (fun W => W.cell? ⟨p, 0, none⟩ = some (.int .i64 so) ∧ W.cell? ⟨p, 1, none⟩ = some (.int .i64 sg) ∧ W.cell? ⟨p, 2, none⟩ = some (.string stg) ∧ W.cell? ⟨p, 3, none⟩ = some (.int .i64 sln) ∧ W.cell? ⟨p, 4, none⟩ = some (.int .i64 stk) ∧ W.cell? ⟨p, 5, none⟩ = some v ∧ W.cell? ⟨p, 6, none⟩ = some (.int .i64 s1) ∧ W.cell? ⟨p, 7, none⟩ = some (.int .i64 s2) ∧ W.cell? ⟨p, 8, none⟩ = some (.int .i64 fl) ∧ W.cell? ⟨p, 9, none⟩ = some (.int .i64 t1) ∧ W.cell? ⟨p, 10, none⟩ = some (.int .i64 t2) ∧ W.cell? ⟨pb, 1, none⟩ = some (.int .i64 gen))
    (first | exact HP0.out | exact HP1.out)
    (first | (go_at_call 32; (with_reducible refine (cl _).mono ?_); rintro e w1 ⟨rfl, hw1⟩; have hb1 : Below w0.heap.size w0 w1 := (by rw [hw1]; exact ((Below.refl _ _).drew).alloc (by simp) _); have HB1 := Lib.hid hb1; have HP1 := HS1 w1 hb1; clear hw1 hb1) | fail)
  have hz1 : w1.heap[p + 1]? = some zO := (HB1.out.block _ (lt_of_at HS0.out.2.1)).trans HS0.out.2.1
  obtain ⟨e0, e1, e2, e3, e4⟩ := cells5 ((HB1.out.block pb (lt_of_at HS0.out.2.2.1)).trans HS0.out.2.2.1)
  obtain ⟨a0, a9⟩ := cells2 ((HB1.out.block pa (lt_of_at HS0.out.2.2.2)).trans HS0.out.2.2.2)
  obtain ⟨d0, d1, d2, d3, d4, d5, d6, d7, d8, d9, d10, -⟩ := HP1.out
  have HZ1 := Lib.hid hz1
  have HBW := Lib.hid (HB0.out.trans (HB1.out.mono HB0.out.size))
  have HPL : Hid (w.heap.size ≤ p + 1) := Lib.hid (by have := HP.out; omega)
  clear c0 c1 c2 c3 c4 c5 c6 c7 c8 c9 c10 b0 b1 b2 b3 b4 hz1 cl
  by_cases h1 : l1 < gen
  · have q1 : decide (l1 < gen) = true := decide_eq_true h1
    have HE := Lib.hid (HN1.out h1)
    have HT := Lib.hid (zO_there HZ1.out)
    have HO1 : Hid ((#[.int .i64 obj, .int .i64 gen, .string tag, .int .i64 len, .int .i64 tick, .map none, .int .i64 a1, .int .i64 a2, .int .i64 fl, .int .i64 t1, .int .i64 t2] : Array Value).all (·.oneCell') = true) := Lib.hid (all_oneCell_toArray (spC_one ⟨true, ⟨obj, gen, tag, len, tick⟩, (a1, a2), [], fl, (t1, t2)⟩ (v := .map none) rfl))
    rw [q1]
    clear h1 q1
    go_wp2_with (refine wpList_store_mid (by rfl) 32 (.tmp 4) (.tmp 18) (by rfl) (p + 1) 0 #[.int .i64 obj, .int .i64 gen, .string tag, .int .i64 len, .int .i64 tick, .map none, .int .i64 a1, .int .i64 a2, .int .i64 fl, .int .i64 t1, .int .i64 t2] (by rfl) (by rfl) HT.out sp_size HO1.out ?_)
    refine bodyPost_ret (res_boundC (s := ⟨true, ⟨obj, gen, tag, len, tick⟩, (a1, a2), [], fl, (t1, t2)⟩) (v := .map none) (by rfl) (sp_out HZ1.out ⟨true, ⟨obj, gen, tag, len, tick⟩, (a1, a2), [], fl, (t1, t2)⟩ (.map none))) rfl ⟨.map none, ?_, .inr (.inl ⟨rfl, ?_⟩), ?_⟩
    · rw [HE.out]
    · rw [HE.out]
    · exact below_row _ _ _ _ HPL.out HBW.out
  · have q1 : decide (l1 < gen) = false := decide_eq_false h1
    rw [q1]
    clear q1
    have HST : ∀ w2, w2 = (((w1.alloc (spO ⟨sb, ⟨so, sg, stg, sln, stk⟩, (s1, s2), sl, fl, (t1, t2)⟩ v)).alloc (bdO ⟨obj, gen, tag, len, tick⟩)).alloc (bdO ⟨so, sg, stg, sln, stk⟩)).alloc (spO ⟨sb, ⟨so, sg, stg, sln, stk⟩, (s1, s2), sl, fl, (t1, t2)⟩ v) → Below w0.heap.size w0 w2 := fun w2 e => by
      rw [e]
      have h9 := HB1.out.size
      exact (((HB1.out.alloc h9 _).alloc (by simp; omega) _).alloc (by simp; omega) _).alloc (by simp; omega) _
    cases r1
    · have HE := Lib.hid (HN3.out (by omega) rfl)
      clear h1
      go_wp2_with (first
        | (go_at_call 33; (with_reducible refine (cr _).mono ?_); rintro e w2 ⟨rfl, hw2⟩; have hb2 := HST w2 hw2; obtain ⟨x0, x1, x2, x3, x4, x5, x6, x7, x8, x9, x10⟩ := cells11 ((hb2.block p (lt_of_at HS0.out.1)).trans HS0.out.1); have HZ2 : Hid (w2.heap[p + 1]? = some zO) := Lib.hid ((hb2.block _ (lt_of_at HS0.out.2.1)).trans HS0.out.2.1); have HT2 := Lib.hid (zO_there HZ2.out); have HO2 := Lib.hid (all_oneCell_toArray (spC_one ⟨sb, ⟨so, sg, stg, sln, stk⟩, (s1, s2), sl, fl, (t1, t2)⟩ HV.out)); have HBW2 := Lib.hid (HB0.out.trans (hb2.mono HB0.out.size)); clear hw2 hb2 d0 d1 d2 d3 d4 d5 d6 d7 d8 d9 d10)
        | (refine wpList_store_mid (by rfl) 32 (.tmp 4) (.tmp 30) (by rfl) (p + 1) 0 #[.int .i64 so, .int .i64 sg, .string stg, .int .i64 sln, .int .i64 stk, v, .int .i64 s1, .int .i64 s2, .int .i64 fl, .int .i64 t1, .int .i64 t2] (by rfl) (by rfl) HT2.out sp_size HO2.out ?_))
      refine bodyPost_ret (res_boundC (s := ⟨sb, ⟨so, sg, stg, sln, stk⟩, (s1, s2), sl, fl, (t1, t2)⟩) (v := v) (by rfl) (sp_out HZ2.out ⟨sb, ⟨so, sg, stg, sln, stk⟩, (s1, s2), sl, fl, (t1, t2)⟩ v)) rfl ⟨v, ?_, .inl ⟨rfl, ?_⟩, ?_⟩
      · rw [HE.out]
      · rw [HE.out]
      · exact below_row _ _ _ _ HPL.out HBW2.out
    · have HE := Lib.hid (HN2.out rfl)
      clear h1
      go_wp2_with (first
        | (go_at_call 33; (with_reducible refine (cr _).mono ?_); rintro e w2 ⟨rfl, hw2⟩; have hb2 := HST w2 hw2; have hq2 := (hb2.block p (lt_of_at HS0.out.1)).trans HS0.out.1; have HQ2 := Lib.hid hq2; obtain ⟨x0, x1, x2, x3, x4, x5, x6, x7, x8, x9, x10⟩ := cells11 hq2; have f4 := frozen0 hq2 4; have f6 := frozen0 hq2 6; have f7 := frozen0 hq2 7; have y4 := (cells5 ((hb2.block pb (lt_of_at HS0.out.2.2.1)).trans HS0.out.2.2.1)).2.2.2.2; obtain ⟨z0, z1⟩ := cells2 ((hb2.block pa (lt_of_at HS0.out.2.2.2)).trans HS0.out.2.2.2); have HZ2 : Hid (w2.heap[p + 1]? = some zO) := Lib.hid ((hb2.block _ (lt_of_at HS0.out.2.1)).trans HS0.out.2.1); have HBW2 := Lib.hid (HB0.out.trans (hb2.mono HB0.out.size)); clear hw2 hb2 hq2 d0 d1 d2 d3 d4 d5 d6 d7 d8 d9 d10 e0 e1 e2 e3 e4 a0 a9))
      go_region
      obtain ⟨w3, hw3⟩ : ∃ w3, w3 = (((w2.setCell ⟨p, 4, none⟩ (.int .i64 tick)).setCell ⟨p, 6, none⟩ (.int .i64 a1)).setCell ⟨p, 7, none⟩ (.int .i64 a2)).drew := ⟨_, rfl⟩
      have hq3 : w3.heap[p]? = some (spO ⟨sb, ⟨so, sg, stg, sln, tick⟩, (a1, a2), sl, fl, (t1, t2)⟩ v) := by
        rw [hw3]
        exact cells_set (cells_set (cells_set (C := [.int .i64 so, .int .i64 sg, .string stg, .int .i64 sln, .int .i64 stk, v, .int .i64 s1, .int .i64 s2, .int .i64 fl, .int .i64 t1, .int .i64 t2]) HQ2.out 4 (.int .i64 tick)) 6 (.int .i64 a1)) 7 (.int .i64 a2)
      have HZ3 : Hid (w3.heap[p + 1]? = some zO) := Lib.hid (by
        rw [hw3]
        exact ((Below.heap_setCell _ ⟨p, 7, none⟩ _ _ (by simp)).trans ((Below.heap_setCell _ ⟨p, 6, none⟩ _ _ (by simp)).trans (Below.heap_setCell _ ⟨p, 4, none⟩ _ _ (by simp)))).trans HZ2.out)
      have HBW3 : Hid (Below w.heap.size w w3) := Lib.hid (by
        have h9 := HP.out
        rw [hw3]
        exact (((HBW2.out.setCell (by simp; omega) _).setCell (by simp; omega) _).setCell (by simp; omega) _).drew)
      obtain ⟨d0, d1, d2, d3, d4, d5, d6, d7, d8, d9, d10⟩ := cells11 hq3
      have HT3 := Lib.hid (zO_there HZ3.out)
      have HO3 := Lib.hid (all_oneCell_toArray (spC_one ⟨sb, ⟨so, sg, stg, sln, tick⟩, (a1, a2), sl, fl, (t1, t2)⟩ HV.out))
      rw [← hw3]
      clear hw3 hq3 x0 x1 x2 x3 x4 x5 x6 x7 x8 x9 x10 f4 f6 f7 y4 z0 z1
      go_wp2_with (refine wpList_store_mid (by rfl) 32 (.tmp 4) (.tmp 30) (by rfl) (p + 1) 0 #[.int .i64 so, .int .i64 sg, .string stg, .int .i64 sln, .int .i64 tick, v, .int .i64 a1, .int .i64 a2, .int .i64 fl, .int .i64 t1, .int .i64 t2] (by rfl) (by rfl) HT3.out sp_size HO3.out ?_)
      refine bodyPost_ret (res_boundC (s := ⟨sb, ⟨so, sg, stg, sln, tick⟩, (a1, a2), sl, fl, (t1, t2)⟩) (v := v) (by rfl) (sp_out HZ3.out ⟨sb, ⟨so, sg, stg, sln, tick⟩, (a1, a2), sl, fl, (t1, t2)⟩ v)) rfl ⟨v, ?_, .inl ⟨rfl, ?_⟩, ?_⟩
      · rw [HE.out]
      · rw [HE.out]
      · exact below_row _ _ _ _ HPL.out HBW3.out
end Go.Proofs.YtcmhodimkpkmbaaDoor
