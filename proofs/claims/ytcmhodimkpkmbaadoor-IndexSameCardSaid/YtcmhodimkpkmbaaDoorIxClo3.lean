/-
  The closure that Piece hands over: what it makes of a slot, in a map of its own.
-/
import Derived.Test.YtcmhodimkpkmbaaDoorIxClo2
namespace Go.Proofs.YtcmhodimkpkmbaaDoor
open Go.ChangeShapes Go.WideShapes Go.ChangeAt Go.RowKit
set_option maxRecDepth 100000

theorem MapOf.one {W : World} {v : Value} {l : List Ix.Sc} (h : MapOf W v l) : v.oneCell' = true := by
  rcases h with ⟨rfl, _⟩ | ⟨mb, rfl, _⟩ <;> rfl
theorem MapOf.below {W W' : World} {v : Value} {l : List Ix.Sc} (h : MapOf W v l) (hb : Below W.heap.size W W') : MapOf W' v l := by
  rcases h with h | ⟨mb, e, h⟩
  · exact .inl h
  · exact .inr ⟨mb, e, h.same (hb.block mb h.lt)⟩
theorem rise_len : ∀ (l : List Ix.Sc) (lo : Int), lo ≤ 4097 → Ix.Rise l → (∀ z ∈ l, lo ≤ z.1 ∧ z.1 ≤ 4096) → (l.length : Int) ≤ 4097 - lo
  | [], lo, h, _, _ => by simp; omega
  | z :: l, lo, _, hr, hn => by
    obtain ⟨h1, h2⟩ := List.pairwise_cons.1 hr
    have hz := hn z (List.mem_cons_self ..)
    have := rise_len l (z.1 + 1) (by omega) h2 (fun y hy => ⟨by have := h1 y hy; omega, (hn y (List.mem_cons_of_mem _ hy)).2⟩)
    rw [List.length_cons]
    omega
theorem ok_len {s : Ix.Sl} (h : Ix.Ok1 s) : s.sl.length ≤ 4097 := by
  have := rise_len s.sl 0 (by omega) h.rise h.num
  omega
theorem mcopy_any {W : World} {nm : Nat} {v : Value} {l : List Ix.Sc} (hd : Mpi W nm []) (hs : MapOf W v l) (hne : v ≠ .map (some nm)) (hr : Ix.Rise l) (hn : l.length ≤ 100000) :
    Calls Tryd.prog 37 #[.map (some nm), v] W fun e W' => (∃ v, e = .returned v) ∧ W.grownBy W' (some nm) ∧ Mpi W' nm l := by
  rcases hs with ⟨rfl, rfl⟩ | ⟨mb, rfl, h⟩
  · exact mcopy_nil hd
  · exact mcopy_some hd h (fun e => hne (by rw [e])) hr hn
theorem pc1_no {s : Ix.Sl} {gen i : Int} (a : Ix.Ad) (h : s.b = false ∨ ¬ gen = s.bind.gen ∨ mayS i = false) : Ix.pc1 s gen i a = s := by
  unfold Ix.pc1
  rw [if_neg]
  rintro ⟨h1, h2, h3⟩
  unfold mayS at h
  rcases h with h | h | h
  · rw [h1] at h; cases h
  · exact h h2.symm
  · exact absurd h3 (of_decide_eq_false h)
theorem pc1_yes {s : Ix.Sl} {gen i : Int} (a : Ix.Ad) (h1 : s.b = true) (h2 : gen = s.bind.gen) (h3 : mayS i = true) : Ix.pc1 s gen i a = { s with sl := Ix.ins i a s.sl } := by
  unfold Ix.pc1
  unfold mayS at h3
  rw [if_pos ⟨h1, h2.symm, of_decide_eq_true h3⟩]
theorem res_pieceC {U : World} {tm : Array Value} {q : Nat} {s : Ix.Sl} {v : Value} (h4 : tm.getD 5 undef = .pointer (some ⟨q, 0, none⟩)) (hr : U.rangeAt q 0 (spC s v)) :
    (results Tryd.f34 tm).run Tryd.prog U = .ok (spV s v) U := by
  have h5 : tm[5]?.getD undef = .pointer (some ⟨q, 0, none⟩) := by simpa using h4
  have hl := run_loadVar_mid (P := Tryd.prog) U q 0 32 (spC s v) _ hr Tryd.underlying32 (by rfl) sp_size
  simp [results, Tryd.results34, h5, asAddr, hl]
  rfl
theorem MapOf.ne_new {W : World} {v : Value} {l : List Ix.Sc} (h : MapOf W v l) : v ≠ .map (some W.heap.size) := by
  rcases h with ⟨rfl, _⟩ | ⟨mb, rfl, h⟩
  · exact fun e => by cases e
  · intro e
    injection e with e
    injection e with e
    have := h.lt
    omega
/-- what stands behind the call of bound -/
structure PcAt (w w2 : World) (pg pi pa : Nat) (s : Ix.Sl) (v : Value) (gen i : Int) (a : Ix.Ad) : Prop where
  below : Below w.heap.size w w2
  box : w2.heap[w.heap.size]? = some (spO s v)
  res : w2.heap[w.heap.size + 1]? = some zO
  gen : w2.heap[pg]? = some (intO gen)
  i : w2.heap[pi]? = some (intO i)
  at_ : w2.heap[pa]? = some (adO a)
  map : MapOf w2 v s.sl
theorem PcAt.on {w w2 w3 : World} {pg pi pa : Nat} {s : Ix.Sl} {v : Value} {gen i : Int} {a : Ix.Ad} (h : PcAt w w2 pg pi pa s v gen i a) (hb : Below w2.heap.size w2 w3) : PcAt w w3 pg pi pa s v gen i a :=
  ⟨h.below.trans (hb.mono h.below.size), (hb.block _ (lt_of_at h.box)).trans h.box, (hb.block _ (lt_of_at h.res)).trans h.res, (hb.block _ (lt_of_at h.gen)).trans h.gen, (hb.block _ (lt_of_at h.i)).trans h.i, (hb.block _ (lt_of_at h.at_)).trans h.at_, h.map.below hb⟩
set_option maxHeartbeats 4000000 in
theorem pieceC_any {s : Ix.Sl} (h : Ix.Ok1 s) (v : Value) (gen i : Int) (a : Ix.Ad) (w : World) (pg pi pa : Nat) (hm : MapOf w v s.sl) (hg : w.heap[pg]? = some (intO gen)) (hi : w.heap[pi]? = some (intO i)) (ha : w.heap[pa]? = some (adO a)) :
    Calls Tryd.prog 34 #[spV s v, .pointer (some ⟨pg, 0, none⟩), .pointer (some ⟨pi, 0, none⟩), .pointer (some ⟨pa, 0, none⟩)] w (SpTo s (Ix.pc1 s gen i a) v w) := by
  have cb := fun W => bound_any h v W
  have cm := fun W => maySl_any i W
  have hv := hm.one
  have HAT : Hid (∀ w2, w2 = ((w.alloc (spO s v)).alloc zO).alloc (spO s v) → PcAt w w2 pg pi pa s v gen i a) := Lib.hid fun w2 e => by
    have hb : Below w.heap.size w w2 := by rw [e]; exact (((Below.refl _ w).alloc (Nat.le_refl _) _).alloc (by simp) _).alloc (by simp; omega) _
    refine ⟨hb, ?_, ?_, (hb.block pg (lt_of_at hg)).trans hg, (hb.block pi (lt_of_at hi)).trans hi, (hb.block pa (lt_of_at ha)).trans ha, hm.below hb⟩
    · rw [e]
      exact ((Below.heap_alloc _ _ _ (by simp; omega)).trans (Below.heap_alloc _ _ _ (by simp))).trans (heap_alloc_new w _)
    · have h9 := heap_alloc_new (w.alloc (spO s v)) zO
      rw [World.size_alloc] at h9
      rw [e]
      exact (Below.heap_alloc _ _ _ (by simp)).trans h9
  have HLEN := Lib.hid (ok_len h)
  have HRI := Lib.hid h.rise
  have HN1 := Lib.hid (fun (h1 : s.b = false ∨ ¬ gen = s.bind.gen ∨ mayS i = false) => pc1_no (gen := gen) (i := i) a h1)
  have HN2 := Lib.hid (fun (h1 : s.b = true) (h2 : gen = s.bind.gen) (h3 : mayS i = true) => pc1_yes (gen := gen) (i := i) a h1 h2 h3)
  have HI : Hid (mayS i = true → W64 i) := Lib.hid fun h3 => by
    unfold mayS at h3
    have := of_decide_eq_true h3
    exact WalkArith.wf_i64 (by omega)
  obtain ⟨sn, hsn⟩ : ∃ sn, sn = Ix.pc1 s gen i a := ⟨_, rfl⟩
  rw [← hsn] at HN1 HN2 ⊢
  have HV := Lib.hid hv
  obtain ⟨mi, hmi⟩ : ∃ mi, mi = mayS i := ⟨_, rfl⟩
  rw [← hmi] at cm HN1 HN2 HI
  have hmf : ∀ n W, _ := fun n W => run_makeMapI n W
  clear hsn h hv hm hg hi ha hmi
  obtain ⟨sb, ⟨so, sg, stg, sln, stk⟩, ⟨s1, s2⟩, sl, fl, ⟨t1, t2⟩⟩ := s
  obtain ⟨a1, a2⟩ := a
  dsimp only at cb HN1 HN2 HLEN HRI
  have HOLD : Hid (∀ w2, PcAt w w2 pg pi pa ⟨sb, ⟨so, sg, stg, sln, stk⟩, (s1, s2), sl, fl, (t1, t2)⟩ v gen i (a1, a2) → (sb = false ∨ ¬ gen = sg ∨ mi = false) → SpTo ⟨sb, ⟨so, sg, stg, sln, stk⟩, (s1, s2), sl, fl, (t1, t2)⟩ sn v w (.returned (spV ⟨sb, ⟨so, sg, stg, sln, stk⟩, (s1, s2), sl, fl, (t1, t2)⟩ v)) (w2.setCells (w.heap.size + 1) 0 (spC ⟨sb, ⟨so, sg, stg, sln, stk⟩, (s1, s2), sl, fl, (t1, t2)⟩ v))) := Lib.hid fun w2 hp h1 => by
    rw [HN1.out h1]
    exact ⟨v, rfl, .inl ⟨rfl, rfl⟩, below_row _ _ _ _ (by omega) hp.below⟩
  have HO1 := Lib.hid (all_oneCell_toArray (spC_one ⟨sb, ⟨so, sg, stg, sln, stk⟩, (s1, s2), sl, fl, (t1, t2)⟩ HV.out))
  cases sb
  · go_enter Tryd.func34, Tryd.ntmps34
    go_wp2_with (first
      | (go_at_call 35; (with_reducible refine (cb _).mono ?_); rintro e w2 ⟨rfl, hw2⟩; have hat := HAT.out w2 hw2; have HAT2 := Lib.hid hat; have HT := Lib.hid (zO_there hat.res); obtain ⟨x0, x1, x2, x3, x4, x5, x6, x7, x8, x9, x10⟩ := cells11 hat.box; have y0 := cells1 hat.gen; have y1 := cells1 hat.i; clear hw2 hat)
      | (refine wpList_store_mid (by rfl) 32 (.tmp 5) (.tmp 23) (by rfl) (w.heap.size + 1) 0 #[.int .i64 so, .int .i64 sg, .string stg, .int .i64 sln, .int .i64 stk, v, .int .i64 s1, .int .i64 s2, .int .i64 fl, .int .i64 t1, .int .i64 t2] (by rfl) (by rfl) HT.out sp_size HO1.out ?_))
    exact bodyPost_ret (res_pieceC (by rfl) (sp_out HAT2.out.res ⟨false, ⟨so, sg, stg, sln, stk⟩, (s1, s2), sl, fl, (t1, t2)⟩ v)) rfl (HOLD.out w2 HAT2.out (by simp))
  · by_cases h1 : gen = sg
    · have c1 : (gen != sg) = false := by simp [h1]
      cases mi
      · go_enter Tryd.func34, Tryd.ntmps34
        go_wp2_with (first
          | (go_at_call 35; (with_reducible refine (cb _).mono ?_); rintro e w2 ⟨rfl, hw2⟩; have hat := HAT.out w2 hw2; have HAT2 := Lib.hid hat; have HT := Lib.hid (zO_there hat.res); obtain ⟨x0, x1, x2, x3, x4, x5, x6, x7, x8, x9, x10⟩ := cells11 hat.box; have y0 := cells1 hat.gen; have y1 := cells1 hat.i; clear hw2 hat)
          | (go_at_call 36; (with_reducible refine (cm _).mono ?_); rintro e w3 ⟨rfl, rfl⟩)
          | (refine wpList_store_mid (by rfl) 32 (.tmp 5) (.tmp 23) (by rfl) (w.heap.size + 1) 0 #[.int .i64 so, .int .i64 sg, .string stg, .int .i64 sln, .int .i64 stk, v, .int .i64 s1, .int .i64 s2, .int .i64 fl, .int .i64 t1, .int .i64 t2] (by rfl) (by rfl) HT.out sp_size HO1.out ?_))
        exact bodyPost_ret (res_pieceC (by rfl) (sp_out HAT2.out.res ⟨true, ⟨so, sg, stg, sln, stk⟩, (s1, s2), sl, fl, (t1, t2)⟩ v)) rfl (HOLD.out w2 HAT2.out (by simp))
      · have HE := Lib.hid (HN2.out rfl h1 rfl)
        have HI2 := Lib.hid (HI.out rfl)
        clear h1
        go_enter Tryd.func34, Tryd.ntmps34
        have HO6 := Lib.hid (fun nm : Nat => all_oneCell_toArray (spC_one ⟨true, ⟨so, sg, stg, sln, stk⟩, (s1, s2), sl, fl, (t1, t2)⟩ (v := .map (some nm)) rfl))
        have hwr : IntKind.i64.wrap ((sl.length : Int) + 1) = (sl.length : Int) + 1 := IntWalk.i64_in _ (by have := HLEN.out; omega)
        go_wp2_with (first
          | (go_at_call 35; (with_reducible refine (cb _).mono ?_); rintro e w2 ⟨rfl, hw2⟩; have hat := HAT.out w2 hw2; have HAT2 := Lib.hid hat; obtain ⟨x0, x1, x2, x3, x4, x5, x6, x7, x8, x9, x10⟩ := cells11 hat.box; have y0 := cells1 hat.gen; have y1 := cells1 hat.i; have hlen := (fun ty => len_run hat.map ty); have hat3 := hat.on ((Below.refl _ w2).alloc (Nat.le_refl _) (.map #[] 0)); obtain ⟨k0, k1, k2, k3, k4, k5, k6, k7, k8, k9, k10⟩ := cells11 hat3.box; have HMV : Hid (v ≠ .map (some w2.heap.size)) := Lib.hid (MapOf.ne_new hat.map); have cc := mcopy_any (Mpi.made w2) hat3.map HMV.out HRI.out (Nat.le_trans HLEN.out (by omega)); clear hw2 hat hat3 k0 k1 k2 k3 k4 k6 k7 k8 k9 k10)
          | (go_at_call 36; (with_reducible refine (cm _).mono ?_); rintro e w3 ⟨rfl, rfl⟩)
          | (go_at_call 37; (with_reducible refine cc.mono ?_); rintro e w4 ⟨⟨vv, rfl⟩, hg4, hm4⟩; have hb4 : Below w2.heap.size w2 w4 := (((Below.refl _ w2).alloc (Nat.le_refl _) (.map #[] 0)).grown hg4 (by simp) (fun q e => by injection e with e; omega)); obtain ⟨u0, u1⟩ := cells2 (HAT2.out.on hb4).at_; have v1 := cells1 (HAT2.out.on hb4).i; obtain ⟨w5, hrun5, ht5, hm5⟩ := hm4.store HRI.out HI2.out (Nat.lt_of_le_of_lt HLEN.out (by decide)) (a1, a2); have hb5 : Below w2.heap.size w2 w5 := (hb4.grown ht5.grown hb4.size (fun q e => by injection e with e; omega)); have hat5 := HAT2.out.on hb5; have HAT5 := Lib.hid hat5; obtain ⟨j0, j1, j2, j3, j4, j5, j6, j7, j8, j9, j10⟩ := cells11 hat5.box; have f5 := frozen0 hat5.box 5; have HM5 := Lib.hid hm5; have HNM : Hid (w.heap.size + 1 < w2.heap.size) := Lib.hid (lt_of_at HAT2.out.res); have hz6 : (w5.setCell ⟨w.heap.size, 5, none⟩ (.map (some w2.heap.size))).heap[w.heap.size + 1]? = some zO := ((Below.heap_setCell _ ⟨w.heap.size, 5, none⟩ _ _ (by simp)).trans hat5.res); have HZ6 := Lib.hid hz6; have HT6 := Lib.hid (zO_there hz6); clear hg4 hm4 hb4 ht5 hm5 hb5 hat5 hz6 cc k5 x0 x1 x2 x3 x4 x5 x6 x7 x8 x9 x10 y0 y1 hlen)
          | (refine wpList_store_mid (by rfl) 32 (.tmp 5) (.tmp 41) (by rfl) (w.heap.size + 1) 0 #[.int .i64 so, .int .i64 sg, .string stg, .int .i64 sln, .int .i64 stk, .map (some w2.heap.size), .int .i64 s1, .int .i64 s2, .int .i64 fl, .int .i64 t1, .int .i64 t2] (by rfl) (by rfl) HT6.out sp_size (HO6.out w2.heap.size) ?_))
        refine bodyPost_ret (res_pieceC (s := ⟨true, ⟨so, sg, stg, sln, stk⟩, (s1, s2), sl, fl, (t1, t2)⟩) (v := .map (some w2.heap.size)) (by rfl) (sp_out HZ6.out ⟨true, ⟨so, sg, stg, sln, stk⟩, (s1, s2), sl, fl, (t1, t2)⟩ (.map (some w2.heap.size)))) rfl ⟨.map (some w2.heap.size), ?_, .inr (.inr ⟨w2.heap.size, rfl, ?_, ?_⟩), ?_⟩
        · rw [HE.out]
        · have := HNM.out
          omega
        · rw [HE.out]
          have hne := HNM.out
          exact HM5.out.same (((Else.setCells _ 0 _ (Else.refl _ _)).same _ (by omega)).trans (Below.heap_setCell _ ⟨w.heap.size, 5, none⟩ _ _ (by simp; omega)))
        · exact below_row _ _ _ _ (by omega) (HAT5.out.below.setCell (by simp) _)
    · have c1 : (gen != sg) = true := by simp [h1]
      have HNE : Hid (¬ gen = sg) := Lib.hid h1
      clear h1
      go_enter Tryd.func34, Tryd.ntmps34
      go_wp2_with (first
        | (go_at_call 35; (with_reducible refine (cb _).mono ?_); rintro e w2 ⟨rfl, hw2⟩; have hat := HAT.out w2 hw2; have HAT2 := Lib.hid hat; have HT := Lib.hid (zO_there hat.res); obtain ⟨x0, x1, x2, x3, x4, x5, x6, x7, x8, x9, x10⟩ := cells11 hat.box; have y0 := cells1 hat.gen; have y1 := cells1 hat.i; clear hw2 hat)
        | (refine wpList_store_mid (by rfl) 32 (.tmp 5) (.tmp 23) (by rfl) (w.heap.size + 1) 0 #[.int .i64 so, .int .i64 sg, .string stg, .int .i64 sln, .int .i64 stk, v, .int .i64 s1, .int .i64 s2, .int .i64 fl, .int .i64 t1, .int .i64 t2] (by rfl) (by rfl) HT.out sp_size HO1.out ?_))
      exact bodyPost_ret (res_pieceC (by rfl) (sp_out HAT2.out.res ⟨true, ⟨so, sg, stg, sln, stk⟩, (s1, s2), sl, fl, (t1, t2)⟩ v)) rfl (HOLD.out w2 HAT2.out (.inr (.inl HNE.out)))
end Go.Proofs.YtcmhodimkpkmbaaDoor
