/-
  cut, join (over a program of 65 words).
-/
import Derived.Test.YtgfafcolfcdkdaaDoorBitJoinM
import Derived.RangeFuncBox
namespace Go.Proofs.YtgfafcolfcdkdaaDoor
open Go.ChangeShapes Go.WideShapes Go.ChangeAt Go.RowKit
set_option maxRecDepth 100000

/-- a place at which a row of numbers may begin or end -/
def cutI (i : Int) : Int := min (max i 0) 4097
theorem cut_any (i : Int) (w : World) : Calls Tryd.prog 28 #[.int .i64 i] w fun e w' => e = .returned (.int .i64 (cutI i)) ∧ w = w' := by
  have hv : (if (4097 : Int) < (if i < 0 then 0 else i) then (4097 : Int) else if i < 0 then 0 else i) = cutI i := by
    unfold cutI
    split <;> split <;> omega
  generalize cutI i = r at *
  go_enter Tryd.func28, Tryd.ntmps28
  go_wp2
  all_goals
    go_ret
    exact ⟨rfl, rfl⟩
theorem grown_behind {w wa w2 : World} {row : Option Nat} (h : Below w.heap.size w wa) (hg : wa.grownBy w2 row) : w.grownBy w2 row :=
  ⟨hg.os.trans h.os, hg.tape.trans h.tape, hg.output.trans h.output, Nat.le_trans h.size hg.size, fun k hk hr => (hg.block k (Nat.lt_of_lt_of_le hk h.size) hr).trans (h.block k hk)⟩
theorem grown_cell (w : World) (g o : Nat) (v : Value) : w.grownBy (w.setCell ⟨g, o, none⟩ v) (some g) :=
  ⟨rfl, rfl, rfl, by simp [World.setCell], fun k _ hr => Below.heap_setCell w ⟨g, o, none⟩ v k (fun e => hr (by rw [e]))⟩
/-- what join answers: a row of the call's own that was another one -/
def JoinTo (base : Nat) (v : Value) (L : List Bm.Run) (w : World) (e : Ending) (w' : World) : Prop :=
  ∃ A c, e = .returned (.slice A L.length c) ∧ OwnR w' base (.slice A L.length c) L ∧ w.grownBy w' v.ownBlock
set_option maxHeartbeats 4000000 in
theorem join_any (base : Nat) (A : Option Addr) (n c : Nat) (L : List Bm.Run) (f t : Int) (q : Bool) (w : World) (hn : n = L.length) (h : OwnR w base (.slice A n c) L) (hb : base ≤ w.heap.size) (hL : L.length ≤ 100000) :
    Calls Tryd.prog 29 #[.slice A n c, .agg #[.int .i64 f, .int .i64 t, .bool q]] w (JoinTo base (.slice A n c) (Bm.joinM L f t q) w) := by
  subst hn
  by_cases hft : t ≤ f
  · rw [Bm.joinM_none hft]
    have HO := Lib.hid h
    have d1 : decide (t ≤ f) = true := decide_eq_true hft
    clear h hft
    go_enter Tryd.func29, Tryd.ntmps29
    go_wp2
    go_ret
    exact ⟨A, c, rfl, HO.out.alloc _, World.grownBy_alloc _ _ _⟩
  · have hft2 : f < t := by omega
    have d1 : decide (t ≤ f) = false := decide_eq_false hft
    obtain ⟨i0, hi, hz0, hz1, hz2⟩ := run_parts
    have HI0 := Lib.hid hi
    have HZ := Lib.hid hz0
    have HSZ := Lib.hid hz1
    have HBY := Lib.hid hz2
    clear hi hz0 hz1 hz2
    obtain ⟨wb, hwb⟩ : ∃ wb, wb = w.alloc (.cells #[.int .i64 f, .int .i64 t, .bool q] 48) := ⟨_, rfl⟩
    have hbw : Below w.heap.size w wb := by rw [hwb]; exact (Below.refl _ w).alloc (Nat.le_refl _) _
    have c0 : wb.cell? ⟨w.heap.size, 0, none⟩ = some (.int .i64 f) := by rw [hwb]; simp
    have c1 : wb.cell? ⟨w.heap.size, 1, none⟩ = some (.int .i64 t) := by rw [hwb]; simp
    have c2 : wb.cell? ⟨w.heap.size, 2, none⟩ = some (.bool q) := by rw [hwb]; simp
    have hob : OwnR wb base (.slice A L.length c) L := h.below hbw
    have HWB := Lib.hid hwb
    have HBW := Lib.hid hbw
    have HLL : Hid (L.length ≤ 100000) := Lib.hid hL
    have HBB : Hid (base ≤ w.heap.size) := Lib.hid hb
    have HFT := Lib.hid hft2
    rcases Nat.eq_zero_or_pos L.length with hl0 | hl0
    · have hLn : L = [] := List.eq_nil_of_length_eq_zero hl0
      subst hLn
      have HO := Lib.hid hob
      clear hob h hwb hbw hft hft2 hl0 hL hb
      have g0 : IntKind.i64.wrap (((0 : Nat) : Int) - 1) = -1 := by decide
      go_enter Tryd.func29, Tryd.ntmps29
      go_wp2_with fail
      rw [← HWB.out]
      go_quiet (fail)
      have HOX : Hid ((wb.drewN nq).ownsRow base 48 3 (.slice A 0 c) 0 (runV [])) := Lib.hid HO.out
      have HBX : Hid (Below w.heap.size w (wb.drewN nq)) := Lib.hid (below_drewN HBW.out _)
      have HBS : Hid (base ≤ (wb.drewN nq).heap.size) := Lib.hid (Nat.le_trans HBB.out HBX.out.size)
      have d0 : (wb.drewN nq).cell? ⟨w.heap.size, 0, none⟩ = some (.int .i64 f) := c0
      have d1 : (wb.drewN nq).cell? ⟨w.heap.size, 1, none⟩ = some (.int .i64 t) := c1
      have d2 : (wb.drewN nq).cell? ⟨w.heap.size, 2, none⟩ = some (.bool q) := c2
      clear c0 c1 c2
      generalize wb.drewN nq = wx at *
      go_wp2_with (at_builtin; refine wpList_append_one (o := ⟨some 37, _, _, _, _, _⟩) rfl (.tmp 34) (.tmp 36) 43 rfl base 48 i0 (.agg #[.int .i64 0, .int .i64 0, .bool false]) 3 24 Tryd.underlying43 HI0.out HZ.out HSZ.out HBY.out rfl (by decide) _ 0 (runV []) rfl (World.ownsRow.alloc HOX.out _) ⟨wx.heap.size, 0, none⟩ 1 [.int .i64 f, .int .i64 t, .bool q] rfl rfl (new_cells wx _ #[.int .i64 f, .int .i64 t, .bool q]) (runV_one [(f, t, q)]) (by have := HLL.out; omega) (by have := HLL.out; omega) (Nat.le_trans HBS.out (by simp)) ?_; intro v2 w2 HO2 HG2)
      go_ret
      have hft2 := HFT.out
      rw [Bm.joinM_nil hft2]
      obtain ⟨A2, c9, rfl, -, -⟩ := Vs.of_ownN HO2.out
      exact ⟨A2, c9, rfl, OwnR.more (L := []) (x := (f, t, q)) HO2.out, grown_behind (HBX.out.alloc HBX.out.size _) HG2.out⟩
    · obtain ⟨k, hk⟩ : ∃ k, k + 1 = L.length := ⟨L.length - 1, by omega⟩
      obtain ⟨g, c9, e9, hbg, hgl, o0, o1, o2, f1⟩ := hob.last hk
      have e8 : A = some ⟨g, 0, none⟩ := by injection e9
      subst e8
      clear e9 c9
      have hs1 := fun W (hW : OwnR W base (.slice (some ⟨g, 0, none⟩) L.length c) L) y => OwnR.set1 (w := W) (base := base) (g := g) (c := c) (k := k) (L := L) (by rw [hk]; exact hW) hk y
      have hm := Bm.joinM_more (L := L) (f := f) (t := t) (q := q) hft2 k hk
      have hnw := Bm.joinM_new (L := L) (f := f) (t := t) (q := q) hft2 k hk
      obtain ⟨r, hr⟩ : ∃ r, r = (L[k]'(by omega)) := ⟨_, rfl⟩
      rw [← hr] at o0 o1 o2 hm hnw
      simp only [← hr] at hs1
      obtain ⟨ra, ro, rq⟩ := r
      dsimp only at o0 o1 o2 hm hnw hs1
      have g0 : IntKind.i64.wrap ((L.length : Int) - 1) = (k : Int) := by rw [IntWalk.i64_in _ (by omega)]; omega
      have g1 : decide ((0 : Int) ≤ (k : Int)) = true := decide_eq_true (by omega)
      have g2 : (k : Int) < (L.length : Int) := by omega
      have g3 : (0 : Int) ≤ (k : Int) := by omega
      have hlen : ∀ y, (L.set k (ra, y, rq)).length = L.length := fun y => by rw [List.length_set]
      have HO := Lib.hid hob
      have HS1 := Lib.hid hs1
      have HNEW := Lib.hid hnw
      have HMORE := Lib.hid hm
      have HLEN := Lib.hid hlen
      have HOL : Hid (wb.ownsRow base 48 3 (.slice (some ⟨g, 0, none⟩) L.length c) L.length (runV L)) := Lib.hid hob
      have HKL := Lib.hid hk
      clear hob h hwb hbw hft hft2 hl0 hL hb hr hs1 hm hnw hlen hk hbg hgl o0
      by_cases hq : rq = q
      · have e1 : (rq == q) = true := by simp [hq]
        have HM := Lib.hid (HMORE.out hq)
        clear hq
        go_enter Tryd.func29, Tryd.ntmps29
        go_wp2_with fail
        rw [← HWB.out]
        go_quiet (fail)
        have HBX : Hid (Below w.heap.size w (wb.drewN nq)) := Lib.hid (below_drewN HBW.out _)
        have HOX : Hid (OwnR (wb.drewN nq) base (.slice (some ⟨g, 0, none⟩) L.length c) L) := Lib.hid HO.out
        have d1' : (wb.drewN nq).cell? ⟨w.heap.size, 1, none⟩ = some (.int .i64 t) := c1
        have o1' : (wb.drewN nq).cell? ⟨g, k * 3 + 1, none⟩ = some (.int .i64 ro) := o1
        have f1' : (wb.drewN nq).frozen? ⟨g, k * 3 + 1, none⟩ = false := f1
        clear c0 c1 c2 o1 o2 f1
        generalize wb.drewN nq = wx at *
        go_wp2
        go_ret
        rw [HM.out]
        have h9 := HS1.out wx HOX.out t
        have hl := HLEN.out t
        generalize L.set k (ra, t, rq) = M at *
        refine ⟨some ⟨g, 0, none⟩, c, by rw [hl]; rfl, ?_, grown_behind HBX.out (grown_cell _ _ _ _)⟩
        rw [hl]
        rw [HKL.out] at h9
        exact h9
      · have e1 : (rq == q) = false := by simp [hq]
        have HM := Lib.hid (HNEW.out hq)
        clear hq
        go_enter Tryd.func29, Tryd.ntmps29
        go_wp2_with fail
        rw [← HWB.out]
        go_quiet (fail)
        have HOX : Hid ((wb.drewN nq).ownsRow base 48 3 (.slice (some ⟨g, 0, none⟩) L.length c) L.length (runV L)) := Lib.hid HOL.out
        have HBX : Hid (Below w.heap.size w (wb.drewN nq)) := Lib.hid (below_drewN HBW.out _)
        have HBS : Hid (base ≤ (wb.drewN nq).heap.size) := Lib.hid (Nat.le_trans HBB.out HBX.out.size)
        have d0 : (wb.drewN nq).cell? ⟨w.heap.size, 0, none⟩ = some (.int .i64 f) := c0
        have d1' : (wb.drewN nq).cell? ⟨w.heap.size, 1, none⟩ = some (.int .i64 t) := c1
        have d2 : (wb.drewN nq).cell? ⟨w.heap.size, 2, none⟩ = some (.bool q) := c2
        clear c0 c1 c2 o1 o2 f1
        generalize wb.drewN nq = wx at *
        go_wp2_with (at_builtin; refine wpList_append_one (o := ⟨some 37, _, _, _, _, _⟩) rfl (.tmp 34) (.tmp 36) 43 rfl base 48 i0 (.agg #[.int .i64 0, .int .i64 0, .bool false]) 3 24 Tryd.underlying43 HI0.out HZ.out HSZ.out HBY.out rfl (by decide) _ L.length (runV L) rfl (World.ownsRow.alloc HOX.out _) ⟨wx.heap.size, 0, none⟩ 1 [.int .i64 f, .int .i64 t, .bool q] rfl rfl (new_cells wx _ #[.int .i64 f, .int .i64 t, .bool q]) (runV_one [(f, t, q)]) (by have := HLL.out; omega) (by have := HLL.out; omega) (Nat.le_trans HBS.out (by simp)) ?_; intro v2 w2 HO2 HG2)
        go_ret
        rw [HM.out]
        obtain ⟨A2, c9, rfl, -, -⟩ := Vs.of_ownN HO2.out
        have hl : (L ++ [(f, t, q)]).length = L.length + 1 := by simp
        refine ⟨A2, c9, by rw [hl]; rfl, ?_, grown_behind (HBX.out.alloc HBX.out.size _) HG2.out⟩
        rw [hl]
        exact OwnR.more (L := L) (x := (f, t, q)) HO2.out
end Go.Proofs.YtgfafcolfcdkdaaDoor
