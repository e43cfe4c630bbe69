/-
  The landed ring: with, without.
-/
import Derived.Test.YtlhkcfhhgcmieaaCkSmall
import Derived.Laws.IdiomCopy
import Derived.Laws.CopyOwn
import Derived.Deep.Cut
import Derived.Deep.RegionLaw
namespace Go.Proofs.Ytlhkcfhhgcmieaa
open Go.ChangeShapes Go.WideShapes Go.ChangeAt Go.RowKit
set_option maxRecDepth 100000

/-- a ring's box, and the variable for what comes of it -/
theorem two_boxes {w w0 : World} {l : List Ck.Sit} (h0 : w0 = (w.alloc (.cells (ringC l).toArray 28)).alloc (.cells (ringC []).toArray 28)) : Bx w0 w.heap.size 28 (ringC l) ∧ Bx w0 (w.heap.size + 1) 28 (ringC []) ∧ Below w.heap.size w w0 := by
  have e1 : (w.alloc (.cells (ringC l).toArray 28)).heap.size = w.heap.size + 1 := by simp
  have h1 := Bx.new (w.alloc (.cells (ringC l).toArray 28)) (ringC []) 28
  rw [e1] at h1
  rw [h0]
  exact ⟨(Bx.new w (ringC l) _).alloc _, h1, ((Below.refl _ w).alloc (Nat.le_refl _) _).alloc (by simp) _⟩
set_option maxHeartbeats 1000000 in
theorem with_any {l : List Ck.Sit} (hl : l.length < 16) (p : Ck.Sit) (w : World) : Calls Try.prog 22 #[ringV l, .agg #[.int .i64 p.1, .bool p.2]] w fun e w' => e = .returned (ringV (l ++ [p])) ∧ Below w.heap.size w w' := by
  have hz := ring_zero
  obtain ⟨wz, hwz⟩ : ∃ wz, wz = ((w.alloc (.cells (ringC l).toArray 28)).alloc (.cells #[.int .i64 p.1, .bool p.2] 25)).alloc (.cells (ringC []).toArray 28) := ⟨_, rfl⟩
  have hb1 : Bx wz w.heap.size 28 (rawC (pad l) (l.length : Int)) := by
    rw [hwz]
    exact ((Bx.new w (ringC l) _).alloc _).alloc _
  have hb2 : Bx wz (w.heap.size + 2) 28 (ringC []) := by
    have h1 := Bx.new ((w.alloc (.cells (ringC l).toArray 28)).alloc (.cells #[.int .i64 p.1, .bool p.2] 25)) (ringC []) 28
    rw [hwz]
    simpa using h1
  have hb3 : Bx wz (w.heap.size + 1) 25 (sitC p) := by
    have h1 := (Bx.new (w.alloc (.cells (ringC l).toArray 28)) (sitC p) 25).alloc (.cells (ringC []).toArray 28)
    rw [hwz]
    have e1 : (w.alloc (.cells (ringC l).toArray 28)).heap.size = w.heap.size + 1 := by simp
    rw [e1] at h1
    exact h1
  have hbw : Below w.heap.size w wz := by
    rw [hwz]
    exact (((Below.refl _ w).alloc (Nat.le_refl _) _).alloc (by simp) _).alloc (by simp; omega) _
  have hpl : (pad l).length = 16 := pad_length (by omega)
  obtain ⟨wy, hwy⟩ : ∃ wy, wy = wz.setCells w.heap.size (l.length * 2) (sitC p) := ⟨_, rfl⟩
  have hy1 : Bx wy w.heap.size 28 (rawC (pad (l ++ [p])) (l.length : Int)) := by
    rw [hwy, ← pad_put hl]
    exact hb1.place (by rw [hpl]; exact hl) p
  have hy2 : Bx wy (w.heap.size + 2) 28 (ringC []) := by
    rw [hwy]
    exact (heap_setCells _ _ _ _ _ (by omega)).trans hb2
  have hyw : Below w.heap.size w wy := by rw [hwy]; exact below_sets _ _ _ _ (Nat.le_refl _) hbw
  have hpl2 : (pad (l ++ [p])).length = 16 := pad_length (by simp; omega)
  obtain ⟨wx, hwx⟩ : ∃ wx, wx = wy.setCell ⟨w.heap.size, 32, none⟩ (.int .i64 ((l.length : Int) + 1)) := ⟨_, rfl⟩
  have hx1 : Bx wx w.heap.size 28 (ringC (l ++ [p])) := by
    rw [hwx]
    have := hy1.set 32 (.int .i64 ((l.length : Int) + 1))
    rw [rawC_setE hpl2] at this
    unfold ringC
    rw [List.length_append, List.length_singleton]
    exact this
  have hx2 : Bx wx (w.heap.size + 2) 28 (ringC []) := by
    rw [hwx]
    exact hy2.far (by dsimp only; omega) _
  have hxw : Below w.heap.size w wx := by rw [hwx]; exact hyw.setCell (p := ⟨w.heap.size, 32, none⟩) (Nat.le_refl _) _
  have c1 : wz.cell? ⟨w.heap.size, 32, none⟩ = some (.int .i64 (l.length : Int)) := by rw [hb1.at, rawC_end hpl]
  have c2 : wy.cell? ⟨w.heap.size, 32, none⟩ = some (.int .i64 (l.length : Int)) := by rw [hy1.at, rawC_end hpl2]
  have f2 : wy.frozen? ⟨w.heap.size, 32, none⟩ = false := hy1.frozen _
  have HTP : Hid (wz.there w.heap.size (l.length * 2) (sitC p).toArray.size) := Lib.hid (hb1.there (by rw [rawC_length hpl]; simp [sitC]; omega))
  have HSP : Hid ((Try.prog.info? 25).map (·.size) = some (sitC p).toArray.size) := Lib.hid place_size
  have HSPL : Hid ((Try.prog.info? 25).map (·.size) = some (sitC p).length) := Lib.hid place_size
  have HOP := Lib.hid (all_oneCell_toArray (sitC_cell p))
  have HRP := Lib.hid hb3.range
  have HRX := Lib.hid hx1.range
  have HLN : Hid ((ringC (l ++ [p])).length = 33) := Lib.hid (ringC_length (by simp; omega))
  have HTX : Hid (wx.there (w.heap.size + 2) 0 (ringC (l ++ [p])).toArray.size) := Lib.hid (hx2.there (by simp [HLN.out, ringC_length]))
  have HSX : Hid ((Try.prog.info? 28).map (·.size) = some (ringC (l ++ [p])).toArray.size) := Lib.hid (by rw [ring_size]; simp [HLN.out])
  have HSXL : Hid ((Try.prog.info? 28).map (·.size) = some (ringC (l ++ [p])).length) := Lib.hid (by rw [ring_size, HLN.out])
  have HOX := Lib.hid (all_oneCell_toArray (ringC_cell (l ++ [p])))
  have HRES : Hid ((wx.setCells (w.heap.size + 2) 0 (ringC (l ++ [p]))).rangeAt (w.heap.size + 2) 0 (ringC (l ++ [p]))) := Lib.hid (World.rangeAt_setCells_same wx _ 0 _ (by have := HTX.out; simpa using this))
  have HBF : Hid (Below w.heap.size w (wx.setCells (w.heap.size + 2) 0 (ringC (l ++ [p])))) := Lib.hid (below_sets _ _ _ _ (by omega) hxw)
  have hwr : IntKind.i64.wrap ((l.length : Int) + 1) = (l.length : Int) + 1 := IntWalk.i64_in _ (by omega)
  have HWZ := Lib.hid hwz
  have HWY := Lib.hid hwy
  have hk0 : (0 : Int) ≤ (l.length : Int) := by omega
  have hk1 : (l.length : Int) < 16 := by omega
  have hagg : (Value.agg #[.int .i64 p.1, .bool p.2]) = .agg (sitC p).toArray := rfl
  unfold ringV
  rw [hagg]
  have hobj : (Obj.cells #[.int .i64 p.1, .bool p.2] 25) = .cells (sitC p).toArray 25 := rfl
  rw [hobj] at hwz HWZ
  clear hb1 hb2 hb3 hbw hy1 hy2 hyw hx1 hx2 hxw hpl hpl2 hwz hwy hl hagg hobj
  generalize ringC (l ++ [p]) = c2' at *
  generalize ringC [] = z0 at *
  generalize ringC l = cs at *
  generalize sitC p = ps at *
  generalize l.length = n at *
  subst hwx
  go_enter Try.func22, Try.ntmps22
  go_upto_region 1 with fail
  rw [← HWZ.out]
  go_wp2_with (first
    | (refine wpList_load_mid (by rfl) 25 (.tmp 3) (by rfl) (w.heap.size + 1) 0 (by rfl) ps _ HRP.out Try.underlying25 (by rfl) HSPL.out ?_)
    | (refine wpList_store_mid (by rfl) 25 (.tmp 9) (.tmp 7) (by rfl) w.heap.size (n * 2) ps.toArray (by rfl) (by rfl) HTP.out HSP.out HOP.out ?_; rw [List.toList_toArray, ← HWY.out])
    | (refine wpList_load_mid (by rfl) 28 (.tmp 2) (by rfl) w.heap.size 0 (by rfl) c2' _ HRX.out Try.underlying28 (by rfl) HSXL.out ?_)
    | (refine wpList_store_mid (by rfl) 28 (.tmp 4) (.tmp 14) (by rfl) (w.heap.size + 2) 0 c2'.toArray (by rfl) (by rfl) HTX.out HSX.out HOX.out ?_; rw [List.toList_toArray]))
  exact bodyPost_ret (res_ring Try.results22 (by rfl) HRES.out HLN.out) rfl ⟨rfl, HBF.out⟩
/-- copy of elements of several cells: all is read before anything is written -/
theorem run_copy_many {P : Program} (w : World) (dT sT ty elem : TypeId) (size b o dLen dCap : Nat) (a : Addr) (sLen sCap : Nat) (cs : List Value)
    (hu : P.underlying dT = some (.slice elem)) (hs : (P.info? elem).map (·.size) = some size) (n : Nat) (hmin : Nat.min sLen dLen = n) (hn : cs.length = n * size)
    (hsrc : ∀ j v, cs[j]? = some v → w.cell? (a.add j) = some v) (hc : ∀ j, j < cs.length → (w.cell? ⟨b, o + j, none⟩).isSome = true) (hf : ∀ j, j < cs.length → w.frozen? ⟨b, o + j, none⟩ = false) (h1 : ∀ v ∈ cs, v.oneCell' = true) :
    (Builtin.copy_ #[dT, sT] ty #[.slice (some ⟨b, o, none⟩) dLen dCap, .slice (some a) sLen sCap]).run P w = .ok (goInt n) (w.setCells b o cs) := by
  have hl := run_loadCells_list (P := P) w a cs hsrc
  have hst := run_storeCells_cells (P := P) b o cs 0 w (by simpa using hc) (by simpa using hf) h1
  cases hq : P.info? elem with
  | none => simp [hq] at hs
  | some i =>
    have hi : i.size = size := by simpa [hq] using hs
    simp [Builtin.copy_, run_underlying hu, Builtin.lenOf, Builtin.firstCells, sizeOf, typeInfo, hq, hi, hmin, ← hn, hl, hst]
theorem step_copy_known {P : Program} {ops : Array Oper} {o : Oper} {a : Act} {w : World} {K : Act → World → Prop} {Q : Exit → Act → World → Prop} {E : Prop}
    (hg : o.guard = none) (d x : Operand) (dT sT : TypeId) (hop : o.op = Op.call { callee := Callee.builtin Builtin.copy, args := #[d, x], argTypes := #[dT, sT] })
    (v u : Value) (hd : a.eval d = v) (hx : a.eval x = u) (v' : Value) (w' : World) (hr : (Builtin.copy_ #[dT, sT] o.type #[v, u]).run P w = .ok v' w') (hK : K (a.put o.dst v') w') :
    if Region.wanted o (yielded ops a.tmps) = true then Oper.wp P o a w K Q else E := by
  have hw : Region.wanted o (yielded ops a.tmps) = true := by simp [Region.wanted, hg]
  rw [if_pos hw]
  unfold Oper.wp
  simp [execOp, hop, resolve, invoke, builtin, hd, hx, hr, Result.andThen]
  exact hK
theorem slice_from (b : Nat) {k : Nat} (hk : k ≤ 16) : ∃ ad : Addr, (k < 16 → ad = ⟨b, k * 2, none⟩) ∧ ∀ w, (Instr.sliceAt 26 (.pointer (some ⟨b, 0, none⟩)) (some (.int .i64 (k : Int))) none none).run Try.prog w = .ok (.slice (some ad) (16 - k) (16 - k)) w := by
  have hl : Try.prog.arrayLen 26 = 16 := by kernel_rfl
  have he : Try.prog.elem 26 = 25 := by kernel_rfl
  have hz : ∀ w, (sizeOf 25).run Try.prog w = .ok 2 w := fun w => by kernel_rfl
  refine ⟨if 16 = k then ⟨b, 0, none⟩ else (⟨b, 0, none⟩ : Addr).add (k * 2), fun h => ?_, fun w => ?_⟩
  · rw [if_neg (by omega), Addr.add_mid, Nat.zero_add]
  · have h := run_sliceAt_array_l (P := Try.prog) w 26 (a := ⟨b, 0, none⟩) (ht := by rw [hl, he]; exact arrP) .i64 (k : Int) (by omega) (by rw [hl]; omega)
    rw [h, he, hz, hl]
    simp [Result.andThen, slicedAt]
theorem under_row : Try.prog.underlying 52 = some (.slice 25) := by kernel_rfl
/-- the places behind one, copied over it -/
theorem copy_row {W : World} {b : Nat} {m : List Ck.Sit} {x : Int} (h : Bx W b 28 (rawC m x)) (hm : m.length = 16) {k : Nat} (hk : k < 16) {a1 a2 : Addr} (h1 : k < 16 → a1 = ⟨b, k * 2, none⟩) (h2 : k + 1 < 16 → a2 = ⟨b, (k + 1) * 2, none⟩) (ty : TypeId) (c1 c2 : Nat) :
    (Builtin.copy_ #[52, 52] ty #[.slice (some a1) (16 - k) c1, .slice (some a2) (16 - (k + 1)) c2]).run Try.prog W = .ok (goInt ((16 - (k + 1) : Nat) : Int)) (W.setCells b (k * 2) (sitV (m.drop (k + 1)))) := by
  have e1 := h1 hk
  subst e1
  refine run_copy_many W 52 52 ty 25 2 b (k * 2) (16 - k) c1 a2 (16 - (k + 1)) c2 (sitV (m.drop (k + 1))) under_row place_size (16 - (k + 1)) (by simp only [Nat.min_def]; split <;> omega) (by rw [sitV_length]; simp [hm]) (fun j v hj => ?_) (fun j hj => ?_) (fun j _ => h.frozen _) (sitV_cell _)
  · have hl := (List.getElem?_eq_some_iff.1 hj).1
    rw [sitV_length, List.length_drop, hm] at hl
    rw [h2 (by omega), Addr.add_mid, h.at]
    rw [← sitV_drop, List.getElem?_drop] at hj
    unfold rawC
    rw [List.getElem?_append_left (by rw [sitV_length]; omega)]
    exact hj
  · rw [sitV_length, List.length_drop, hm] at hj
    rw [h.at, List.getElem?_eq_getElem (by rw [rawC_length hm]; omega)]
    rfl
set_option maxHeartbeats 1000000 in
theorem without_any {l : List Ck.Sit} (hl : l.length ≤ 16) {k : Nat} (hk : k < l.length) (w : World) : Calls Try.prog 21 #[ringV l, .int .i64 (k : Int)] w fun e w' => e = .returned (ringV (l.eraseIdx k)) ∧ Below w.heap.size w w' := by
  have hz := ring_zero
  obtain ⟨j, hj⟩ : ∃ j, l.length = j + 1 := ⟨l.length - 1, by omega⟩
  obtain ⟨wz, hwz⟩ : ∃ wz, wz = (w.alloc (.cells (ringC l).toArray 28)).alloc (.cells (ringC []).toArray 28) := ⟨_, rfl⟩
  obtain ⟨hb1, hb2, hbw⟩ := two_boxes hwz
  have hpl : (pad l).length = 16 := pad_length hl
  obtain ⟨m, hm⟩ : ∃ m, m = (pad l).take k ++ (pad l).drop (k + 1) ++ (pad l).drop 15 := ⟨_, rfl⟩
  have hml : m.length = 16 := by rw [hm]; simp [hpl]; omega
  obtain ⟨X, hX⟩ : ∃ X : Int, X = (l.length : Int) := ⟨_, rfl⟩
  have hb1 : Bx wz w.heap.size 28 (rawC (pad l) X) := by rw [hX]; exact hb1
  obtain ⟨a1, ha1, hs1⟩ := slice_from w.heap.size (show k ≤ 16 by omega)
  obtain ⟨a2, ha2, hs2⟩ := slice_from w.heap.size (show k + 1 ≤ 16 by omega)
  have HCP := Lib.hid (fun ty c1 c2 => copy_row (W := wz.drew) hb1 hpl (show k < 16 by omega) ha1 ha2 ty c1 c2)
  obtain ⟨wa, hwa⟩ : ∃ wa, wa = wz.drew.setCells w.heap.size (k * 2) (sitV ((pad l).drop (k + 1))) := ⟨_, rfl⟩
  have ga1 : Bx wa w.heap.size 28 (rawC m X) := by rw [hwa, hm]; exact Bx.shift (W := wz.drew) hpl hb1 (by omega)
  have ga2 : Bx wa (w.heap.size + 1) 28 (ringC []) := by rw [hwa]; exact (heap_setCells _ _ _ _ _ (by omega)).trans hb2
  have gaw : Below w.heap.size w wa := by rw [hwa]; exact below_sets _ _ _ _ (Nat.le_refl _) hbw.drew
  obtain ⟨wb, hwb⟩ : ∃ wb, wb = wa.setCell ⟨w.heap.size, 32, none⟩ (.int .i64 (j : Int)) := ⟨_, rfl⟩
  have gb1 : Bx wb w.heap.size 28 (rawC m (j : Int)) := by rw [hwb, ← rawC_setE hml X]; exact ga1.set 32 _
  have gb2 : Bx wb (w.heap.size + 1) 28 (ringC []) := by rw [hwb]; exact ga2.far (by dsimp only; omega) _
  have gbw : Below w.heap.size w wb := by rw [hwb]; exact gaw.setCell (p := ⟨w.heap.size, 32, none⟩) (Nat.le_refl _) _
  obtain ⟨wc, hwc⟩ : ∃ wc, wc = wb.setCells w.heap.size (j * 2) (sitC (0, false)) := ⟨_, rfl⟩
  have hel : (l.eraseIdx k).length = j := by rw [List.length_eraseIdx, if_pos hk]; omega
  have gc1 : Bx wc w.heap.size 28 (ringC (l.eraseIdx k)) := by
    unfold ringC
    rw [hwc, ← pad_cut hl hk, ← hm, hel, show l.length - 1 = j by omega]
    exact gb1.place (by omega) (0, false)
  have gc2 : Bx wc (w.heap.size + 1) 28 (ringC []) := by rw [hwc]; exact (heap_setCells _ _ _ _ _ (by omega)).trans gb2
  have gcw : Below w.heap.size w wc := by rw [hwc]; exact below_sets _ _ _ _ (Nat.le_refl _) gbw
  have c1 : wa.cell? ⟨w.heap.size, 32, none⟩ = some (.int .i64 X) := by rw [ga1.at, rawC_end hml]
  have f1 : wa.frozen? ⟨w.heap.size, 32, none⟩ = false := ga1.frozen _
  have c2 : wb.cell? ⟨w.heap.size, 32, none⟩ = some (.int .i64 (j : Int)) := by rw [gb1.at, rawC_end hml]
  have HTP : Hid (wb.there w.heap.size (j * 2) (sitC (0, false)).toArray.size) := Lib.hid (gb1.there (by rw [rawC_length hml]; simp [sitC]; omega))
  have HSP : Hid ((Try.prog.info? 25).map (·.size) = some (sitC (0, false)).toArray.size) := Lib.hid place_size
  have HOP := Lib.hid (all_oneCell_toArray (sitC_cell (0, false)))
  have HRX := Lib.hid gc1.range
  have HLN : Hid ((ringC (l.eraseIdx k)).length = 33) := Lib.hid (ringC_length (by omega))
  have HTX : Hid (wc.there (w.heap.size + 1) 0 (ringC (l.eraseIdx k)).toArray.size) := Lib.hid (gc2.there (by simp [HLN.out, ringC_length]))
  have HSX : Hid ((Try.prog.info? 28).map (·.size) = some (ringC (l.eraseIdx k)).toArray.size) := Lib.hid (by rw [ring_size]; simp [HLN.out])
  have HSXL : Hid ((Try.prog.info? 28).map (·.size) = some (ringC (l.eraseIdx k)).length) := Lib.hid (by rw [ring_size, HLN.out])
  have HOX := Lib.hid (all_oneCell_toArray (ringC_cell (l.eraseIdx k)))
  have HRES : Hid ((wc.setCells (w.heap.size + 1) 0 (ringC (l.eraseIdx k))).rangeAt (w.heap.size + 1) 0 (ringC (l.eraseIdx k))) := Lib.hid (World.rangeAt_setCells_same wc _ 0 _ (by have := HTX.out; simpa using this))
  have HBF : Hid (Below w.heap.size w (wc.setCells (w.heap.size + 1) 0 (ringC (l.eraseIdx k)))) := Lib.hid (below_sets _ _ _ _ (by omega) gcw)
  have hwr : IntKind.i64.wrap (X - 1) = (j : Int) := by rw [hX, hj]; exact (IntWalk.i64_in _ (by omega)).trans (by omega)
  have hwk : IntKind.i64.wrap ((k : Int) + 1) = ((k + 1 : Nat) : Int) := (IntWalk.i64_in _ (by omega)).trans (by omega)
  have HWZ := Lib.hid hwz
  have HWA := Lib.hid hwa
  have HWC := Lib.hid hwc
  have hj0 : (0 : Int) ≤ (j : Int) := by omega
  have hj1 : (j : Int) < 16 := by omega
  unfold ringV
  clear ha1 ha2 hb1 hb2 hbw ga1 ga2 gaw gb1 gb2 gbw gc1 gc2 gcw hpl hml hm hwz hwa hwc hl hel hX hk hj
  generalize ringC (l.eraseIdx k) = c2' at *
  generalize ringC [] = z0 at *
  generalize ringC l = cs at *
  generalize sitV ((pad l).drop (k + 1)) = vs at *
  generalize hK : k + 1 = k2 at *
  clear hK
  subst hwb
  go_enter Try.func21, Try.ntmps21
  go_upto_region 1 with fail
  rw [← HWZ.out]
  go_region_law (refine step_copy_known rfl (.tmp 7) (.tmp 11) 52 52 rfl (.slice (some a1) (16 - k) (16 - k)) (.slice (some a2) (16 - k2) (16 - k2)) (by simp [Act.eval, Act.put]) (by simp [Act.eval, Act.put]) _ _ (HCP.out _ _ _) ?_)
  rw [← HWA.out]
  go_wp2_with (first
    | (refine wpList_store_mid (by rfl) 25 (.tmp 21) (.tmp 19) (by rfl) w.heap.size (j * 2) (sitC (0, false)).toArray (by rfl) (by rfl) HTP.out HSP.out HOP.out ?_; rw [List.toList_toArray, ← HWC.out])
    | (refine wpList_load_mid (by rfl) 28 (.tmp 2) (by rfl) w.heap.size 0 (by rfl) c2' _ HRX.out Try.underlying28 (by rfl) HSXL.out ?_)
    | (refine wpList_store_mid (by rfl) 28 (.tmp 4) (.tmp 22) (by rfl) (w.heap.size + 1) 0 c2'.toArray (by rfl) (by rfl) HTX.out HSX.out HOX.out ?_; rw [List.toList_toArray]))
  exact bodyPost_ret (res_ring Try.results21 (by rfl) HRES.out HLN.out) rfl ⟨rfl, HBF.out⟩
end Go.Proofs.Ytlhkcfhhgcmieaa
