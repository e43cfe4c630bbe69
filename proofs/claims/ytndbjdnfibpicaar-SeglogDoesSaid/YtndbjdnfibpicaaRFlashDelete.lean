/-
  slices.IndexFunc, slices.DeleteFunc at places, by their segment.
-/
import Derived.Test.YtndbjdnfibpicaaRFlashSmall
import Derived.Test.YtndbjdnfibpicaaRMCells
import Derived.LoopN
import Derived.Maps.AppendAt
namespace Go.Proofs.YtndbjdnfibpicaaR
open Go.ChangeShapes Go.WideShapes Go.ChangeAt Go.RowKit Fl
set_option maxRecDepth 100000

/-- the closure -/
theorem inSeg_any (s p g : Int) (sb : Nat) (w : World) (hc : w.cell? ⟨sb, 0, none⟩ = some (.int .i64 g)) :
    Calls Try.prog 47 #[.agg #[.int .i64 s, .int .i64 p], .pointer (some ⟨sb, 0, none⟩)] w fun e w' => e = .returned (.bool (decide (s = g))) ∧ Below w.heap.size w w' := by
  have hlt : sb < w.heap.size := World.block_lt_of_cell? w _ hc
  have hb := below_new4 w (.cells #[.int .i64 s, .int .i64 p] 51)
  have hc2 := (hb.cell (p := ⟨sb, 0, none⟩) hlt).trans hc
  go_enter Try.func47, Try.ntmps47
  go_wp2
  go_ret
  exact ⟨by congr 1, hb⟩

/-- a row of places, cell by cell -/
theorem own_pair {w : World} {g n c : Nat} {R : List (Int × Int)} (h : w.ownsRow 0 51 2 (.slice (some ⟨g, 0, none⟩) n c) n (duos R)) (hn : R.length = n) {j : Nat} (hj : j < n) :
    w.cell? ⟨g, j * 2, none⟩ = some (.int .i64 (R[j]'(by omega)).1) ∧ w.cell? ⟨g, j * 2 + 1, none⟩ = some (.int .i64 (R[j]'(by omega)).2) ∧ w.frozen? ⟨g, j * 2, none⟩ = false ∧ w.frozen? ⟨g, j * 2 + 1, none⟩ = false := by
  obtain ⟨q1, q2⟩ := duos_get R j (by omega)
  exact ⟨(h.cellAt (j * 2) (by omega)).trans q1, (h.cellAt (j * 2 + 1) (by omega)).trans q2, h.frozenAt _, h.frozenAt _⟩
theorem duos_set : ∀ (L : List (Int × Int)) (k : Nat) (y : Int × Int), k < L.length → ((duos L).set (k * 2) (.int .i64 y.1)).set (k * 2 + 1) (.int .i64 y.2) = duos (L.set k y)
  | [], k, _, h => absurd h (by simp)
  | x :: L, 0, y, _ => rfl
  | x :: L, k + 1, y, h => by
    have := duos_set L k y (by simpa using h)
    rw [duos_cons]
    have e : (k + 1) * 2 = k * 2 + 1 + 1 := by omega
    rw [e]
    simp only [List.set_cons_succ, this, duos_cons]
abbrev segF (sb : Nat) : Value := .func (.func 47) #[] #[.pointer (some ⟨sb, 0, none⟩)]
/-- where the first of a segment is -/
def FirstTo (D : List (Int × Int)) (g : Int) (w : World) (e : Ending) (w' : World) : Prop :=
  Below w.heap.size w w' ∧ (((∀ x ∈ D, x.1 ≠ g) ∧ e = .returned (.int .i64 (-1))) ∨ ∃ k, ∃ hk : k < D.length, (D[k]'hk).1 = g ∧ (∀ x ∈ D.take k, x.1 ≠ g) ∧ e = .returned (.int .i64 k))
theorem below_next0 {w w1 w' : World} (h : Below w.heap.size w w1) (hb : Below w1.heap.size w1 w') : Below w.heap.size w w' := h.trans (hb.mono h.size)
theorem below_box0 {w w1 w' : World} {o : Obj} (h : Below w.heap.size w w1) (hb : Below (w1.alloc o).heap.size (w1.alloc o) w') : Below w.heap.size w w' :=
  (h.alloc h.size o).trans (hb.mono (h.alloc h.size o).size)
set_option maxHeartbeats 1000000 in
theorem first_any (g sb : Nat) (c : Nat) (D : List (Int × Int)) (x : Int) (w : World) (h : w.ownsRow 0 51 2 (.slice (some ⟨g, 0, none⟩) D.length c) D.length (duos D)) (hc : w.cell? ⟨sb, 0, none⟩ = some (.int .i64 x)) (hn : D.length ≤ 100000) :
    Calls Try.prog 61 #[.slice (some ⟨g, 0, none⟩) D.length c, segF sb] w (FirstTo D x w) := by
  have HO := Lib.hid h
  have HC := Lib.hid hc
  clear h hc
  obtain ⟨n, hnn⟩ : ∃ n, n = D.length := ⟨_, rfl⟩
  rw [← hnn] at HO hn ⊢
  have HN := Lib.hid hnn
  clear hnn
  go_enter Try.func61, Try.ntmps61
  go_wp2
  go_loopw [5, 8] (fun _ i wr => ∃ k : Nat, k ≤ n ∧ i = .int .i64 k ∧ Hid (∀ y ∈ D.take k, y.1 ≠ x) ∧ Hid (Below w.heap.size w wr)) (fun _ i _ => n - (intOf i).toNat)
  case atStart => exact ⟨0, by omega, rfl, Lib.hid (by simp), Lib.hid (Below.refl _ _)⟩
  case round =>
    obtain ⟨k, hk, rfl, HA, HB⟩ := hrel
    by_cases hlt : k < n
    · have hkD : k < D.length := by rw [← HN.out]; exact hlt
      have hgl : g < w.heap.size := (HO.out.lt g rfl).2
      obtain ⟨e0, e1, _, _⟩ := own_pair HO.out HN.out.symm hlt
      have d0 := (HB.out.cell (p := ⟨g, k * 2, none⟩) hgl).trans e0
      have d1 := (HB.out.cell (p := ⟨g, k * 2 + 1, none⟩) hgl).trans e1
      have hsl : sb < w.heap.size := World.block_lt_of_cell? w _ HC.out
      have cs := inSeg_any (D[k]).1 (D[k]).2 x sb wr ((HB.out.cell (p := ⟨sb, 0, none⟩) hsl).trans HC.out)
      have HK : Hid (D[k].1 = x → D[k].1 = x ∧ D.length = n) := Lib.hid fun e => ⟨e, HN.out.symm⟩
      have HT : Hid (D[k].1 ≠ x → ∀ y ∈ D.take (k + 1), y.1 ≠ x) := Lib.hid fun hne y hy => by
        rw [List.take_succ_eq_append_getElem hkD] at hy
        rcases List.mem_append.1 hy with hy | hy
        · exact HA.out y hy
        · simp only [List.mem_singleton] at hy
          rw [hy]; exact hne
      by_cases hx : (D[k]).1 = x
      · have HX := Lib.hid hx
        rw [decide_eq_true hx] at cs
        clear e0 e1 hx HK HT
        generalize D[k].1 = y1 at d0 cs
        generalize D[k].2 = y2 at d1 cs
        go_wp2_with (go_at_call 47; (with_reducible refine cs.mono ?_); rintro e w2 ⟨rfl, hb2⟩)
        go_ret
        exact ⟨below_next0 HB.out hb2, .inr ⟨k, hkD, HX.out, HA.out, rfl⟩⟩
      · have HT2 := Lib.hid (HT.out hx)
        rw [decide_eq_false hx] at cs
        clear e0 e1 hx HK HT
        generalize D[k].1 = y1 at d0 cs
        generalize D[k].2 = y2 at d1 cs
        go_wp2_with (go_at_call 47; (with_reducible refine cs.mono ?_); rintro e w2 ⟨rfl, hb2⟩)
        go_roundw
        case rel => exact ⟨k + 1, by omega, by go_num, HT2, Lib.hid (below_next0 HB.out hb2)⟩
        case measure => simp [intOf]; omega
    · obtain rfl : k = n := by omega
      have HA2 : Hid (∀ y ∈ D, y.1 ≠ x) := Lib.hid (by have := HA.out; rwa [HN.out, List.take_length] at this)
      go_wp2
      go_ret
      exact ⟨HB.out, .inl ⟨HA2.out, rfl⟩⟩

theorem gb_below {w0 w w' : World} {row : Option Nat} (h : w0.grownBy w row) (hb : Below w.heap.size w w') : w0.grownBy w' row :=
  h.trans ⟨hb.os, hb.tape, hb.output, hb.size, fun i hi _ => hb.block i hi⟩
theorem gb_set {w0 w : World} {g : Nat} (h : w0.grownBy w (some g)) (o : Nat) (u : Value) : w0.grownBy (w.setCell ⟨g, o, none⟩ u) (some g) :=
  h.trans ⟨rfl, rfl, rfl, by simp [World.setCell], fun i _ hi => Below.heap_setCell w _ u i fun e => hi (by rw [e])⟩
theorem gb_refl (w : World) (row : Option Nat) : w.grownBy w row := ⟨rfl, rfl, rfl, Nat.le_refl _, fun _ _ _ => rfl⟩
/-- the rest of a row is wiped -/
theorem clear_run {w : World} {g n c i : Nat} {R : List (Int × Int)} (h : w.ownsRow 0 51 2 (.slice (some ⟨g, 0, none⟩) n c) n (duos R)) (hn : R.length = n) (hi : i < n) (ty : TypeId) (k : Nat) :
    ∃ w', (Builtin.clear_ #[58] ty #[.slice (some ⟨g, i * 2, none⟩) (n - i) k]).run Try.prog w = .ok (.tuple #[]) w' ∧ w'.ownsRow 0 51 2 (.slice (some ⟨g, 0, none⟩) i c) i (duos (R.take i)) ∧ w.grownBy w' (some g) := by
  obtain ⟨hl, hcase⟩ := h
  rcases hcase with ⟨h1, _⟩ | ⟨g', cap, cur, he, _, hg, hnc, hcm, hsz, htk⟩
  · cases h1
  · simp only [Value.slice.injEq, Option.some.injEq, Addr.mk.injEq, and_true, true_and] at he
    obtain ⟨rfl, rfl⟩ := he
    have hz : ∀ w, (zeroValue 51).run Try.prog w = .ok (.agg #[.int .i64 0, .int .i64 0]) w := fun w => by kernel_rfl
    obtain ⟨Z, hZ⟩ : ∃ Z, Z = (Builtin.zeroCells (Value.agg #[.int .i64 0, .int .i64 0]).cells (n - i)).toList := ⟨_, rfl⟩
    have hZl : Z.length = (n - i) * 2 := by rw [hZ, Array.length_toList, size_zeroCells]; rfl
    have hZ1 : ∀ v ∈ Z, v.oneCell' = true := by
      intro v hv
      rw [hZ] at hv
      obtain ⟨q, hq, rfl⟩ := List.getElem_of_mem hv
      rcases Nat.mod_two_eq_zero_or_one q with h2 | h2 <;> simp [Builtin.zeroCells, Value.cells, h2, Value.oneCell']
    have hst := run_storeCells_at Try.prog g (i * 2) 51 Z 0 cur w hg (by rw [hZl, hsz]; omega) hZ1
    simp only [Nat.add_zero] at hst
    refine ⟨w.setRow g (cur.toList.take (i * 2) ++ Z ++ cur.toList.drop (i * 2 + Z.length)).toArray, ?_, ⟨?_, .inr ⟨g, c, _, rfl, Nat.zero_le _, setRow_heap w g _ _ _ _ hg, by omega, hcm, ?_, ?_⟩⟩, ⟨rfl, rfl, rfl, by simp [World.setRow], fun j _ hj => setRow_other w g j _ fun e => hj (by rw [e])⟩⟩
    · have hne : n - i ≠ 0 := by omega
      obtain ⟨m, hm⟩ : ∃ m, n - i = m + 1 := ⟨n - i - 1, by omega⟩
      rw [hm] at hZ ⊢
      simp [Builtin.clear_, run_underlying Try.underlying58, hz, ← hZ, hst]
    · rw [duos_length, List.length_take]; omega
    · simp [hZl, hsz]; omega
    · rw [List.append_assoc, List.take_append_of_le_length (by simp [hsz]; omega), List.take_of_length_le (by rw [List.length_take]; omega)]
      have e1 : cur.toList.take (i * 2) = (cur.toList.take (n * 2)).take (i * 2) := by rw [List.take_take, Nat.min_eq_left (by omega)]
      rw [e1, htk]
      have e2 : R = R.take i ++ R.drop i := (List.take_append_drop i R).symm
      conv => lhs; rw [e2, ← duos_append]
      rw [List.take_append_of_le_length (by rw [duos_length, List.length_take]; omega), List.take_of_length_le (by rw [duos_length, List.length_take]; omega)]

theorem wpList_clear_addrs {w : World} {ops : Array Oper} {rest : List Oper} {o : Oper} {a : Act} {Q : Exit → Act → World → Prop} (hg : o.guard = none) (x : Operand)
    (hop : o.op = Op.call { callee := Callee.builtin Builtin.clear, args := #[x], argTypes := #[58] }) {g n c i : Nat} {R : List (Int × Int)} (k : Nat)
    (hx : a.eval x = .slice (some ⟨g, i * 2, none⟩) (n - i) k) (h : w.ownsRow 0 51 2 (.slice (some ⟨g, 0, none⟩) n c) n (duos R)) (hn : R.length = n) (hi : i < n)
    (hK : ∀ w', Hid (w'.ownsRow 0 51 2 (.slice (some ⟨g, 0, none⟩) i c) i (duos (R.take i))) → Hid (w.grownBy w' (some g)) → wpList Try.prog ops Q rest (a.put o.dst (.tuple #[])) w') : wpList Try.prog ops Q (o :: rest) a w := by
  refine wpList_plain hg fun K' hK' => ?_
  obtain ⟨w', hrun, h1, h2⟩ := clear_run h hn hi o.type k
  unfold Oper.wp
  simp [execOp, hop, resolve, invoke, builtin, hx, hrun, Result.andThen]
  exact hK' _ _ (hK w' h1 h2)

def others (x : Int) (D : List (Int × Int)) : List (Int × Int) := D.filter fun y => !decide (y.1 = x)
/-- those of other segments, in the same row -/
def DeleteTo (D : List (Int × Int)) (x : Int) (u : Value) (w : World) (e : Ending) (w' : World) : Prop :=
  ∃ u', e = .returned u' ∧ w'.ownsRow 0 51 2 u' (others x D).length (duos (others x D)) ∧ u'.ownBlock = u.ownBlock ∧ w.grownBy w' u.ownBlock
theorem others_snoc {x : Int} {D : List (Int × Int)} {b : Nat} (hb : b < D.length) : others x (D.take (b + 1)) = if D[b].1 = x then others x (D.take b) else others x (D.take b) ++ [D[b]] := by
  unfold others
  rw [List.take_succ_eq_append_getElem hb, List.filter_append]
  by_cases h : D[b].1 = x <;> simp [h]
set_option maxHeartbeats 4000000 in
theorem delete_some (g sb c : Nat) (D : List (Int × Int)) (x : Int) (w : World) (h : w.ownsRow 0 51 2 (.slice (some ⟨g, 0, none⟩) D.length c) D.length (duos D)) (hc : w.cell? ⟨sb, 0, none⟩ = some (.int .i64 x)) (hsg : sb ≠ g) (hn : D.length ≤ 100000) (hcap : D.length ≤ c) :
    Calls Try.prog 46 #[.slice (some ⟨g, 0, none⟩) D.length c, segF sb] w (DeleteTo D x (.slice (some ⟨g, 0, none⟩) D.length c) w) := by
  have cf := first_any g sb c D x w h hc hn
  have HO := Lib.hid h
  have HC := Lib.hid hc
  clear h hc
  obtain ⟨n, hnn⟩ : ∃ n, n = D.length := ⟨_, rfl⟩
  rw [← hnn] at HO hn cf hcap ⊢
  have HN := Lib.hid hnn
  clear hnn
  unfold FirstTo at cf
  go_enter Try.func46, Try.ntmps46
  go_wp2_with (go_at_call 61; (with_reducible refine cf.mono ?_); rintro e w1 ⟨hb1, ⟨ha, rfl⟩ | ⟨k, hk, hx, ha, rfl⟩⟩)
  · go_ret
    have e : others x D = D := List.filter_eq_self.2 fun y hy => by simpa using ha y hy
    rw [← show D.length = n from HN.out.symm]
    refine ⟨_, rfl, ?_, rfl, ⟨hb1.os, hb1.tape, hb1.output, hb1.size, fun i hi _ => hb1.block i hi⟩⟩
    rw [e]
    have := HO.out.kept (row := none) (w' := w1) ⟨hb1.os, hb1.tape, hb1.output, hb1.size, fun i hi _ => hb1.block i hi⟩ (.inr (by simp [Value.ownBlock]))
    rwa [← HN.out]
  · have hkn : k < n := by rw [HN.out]; exact hk
    have HS0 : Hid (D.take k = others x (D.take (k + 1))) := Lib.hid (by
      rw [others_snoc hk, if_pos hx]
      exact (List.filter_eq_self.2 fun y hy => by simpa using ha y hy).symm)
    have HO1 := Lib.hid (HO.out.kept (row := none) (w' := w1) ⟨hb1.os, hb1.tape, hb1.output, hb1.size, fun i hi _ => hb1.block i hi⟩ (.inr (by simp [Value.ownBlock])))
    have HB1 := Lib.hid hb1
    have hw1 : wrap64 ((k : Int) + 1) = ((k + 1 : Nat) : Int) := by rw [IntWalk.wrap64_in _ (by omega)]; rfl
    rw [hw1]
    clear hw1 hx ha hb1 cf
    go_loopw [5, 6, 7] (fun ia ib _ wr => ∃ (a b : Nat) (R : List (Int × Int)), a < b ∧ b ≤ n ∧ ia = .int .i64 a ∧ ib = .int .i64 b ∧ R.length = n ∧ Hid (R.take a = others x (D.take b)) ∧ Hid (R.drop b = D.drop b) ∧
      Hid (wr.ownsRow 0 51 2 (.slice (some ⟨g, 0, none⟩) n c) n (duos R)) ∧ Hid (w.grownBy wr (some g))) (fun _ ib _ _ => n - (intOf ib).toNat)
    case atStart => exact ⟨k, k + 1, D, by omega, by omega, rfl, rfl, HN.out.symm, HS0, Lib.hid rfl, HO1, Lib.hid (gb_below (gb_refl _ _) HB1.out)⟩
    case round =>
      obtain ⟨a, b, R, hab, hbn, rfl, rfl, hR, HT, HD, HW, HG⟩ := hrel
      by_cases hlt : b < n
      · have hbD : b < D.length := by rw [← HN.out]; exact hlt
        obtain ⟨e0, e1, _, _⟩ := own_pair HW.out hR hlt
        have hRb : R[b]'(by omega) = D[b] := by
          have h1 := congrArg (fun l => l[0]?) HD.out
          simp only [List.getElem?_drop, Nat.add_zero] at h1
          rw [List.getElem?_eq_getElem (by omega), List.getElem?_eq_getElem hbD] at h1
          exact Option.some.inj h1
        rw [hRb] at e0 e1
        have hgl : g < wr.heap.size := (HW.out.lt g rfl).2
        have hsl : sb < w.heap.size := World.block_lt_of_cell? w _ HC.out
        have hcs := HG.out.cell HC.out (show some sb ≠ some g by simpa using hsg)
        have hb2 := below_new4 wr (.cells #[.int .i64 D[b].1, .int .i64 D[b].2] 51)
        have hsl2 : sb < wr.heap.size := Nat.lt_of_lt_of_le hsl HG.out.size
        have cs := inSeg_any (D[b]).1 (D[b]).2 x sb _ ((hb2.cell (p := ⟨sb, 0, none⟩) hsl2).trans hcs)
        have tw := Two.new wr (.int .i64 D[b].1) (.int .i64 D[b].2) 51
        have hsn := others_snoc (x := x) hbD
        have HBD : Hid (R.drop (b + 1) = D.drop (b + 1)) := Lib.hid (by
          have h1 := congrArg (List.drop 1) HD.out
          rwa [List.drop_drop, List.drop_drop] at h1)
        by_cases hx : (D[b]).1 = x
        · rw [if_pos hx] at hsn
          have HSN := Lib.hid (HT.out.trans hsn.symm)
          rw [decide_eq_true hx] at cs
          clear hx hsn hRb hcs
          generalize D[b].1 = y1 at *
          generalize D[b].2 = y2 at *
          go_wp2_with (go_at_call 47; (with_reducible refine cs.mono ?_); rintro e w2 ⟨rfl, hb3⟩)
          go_roundw
          case rel =>
            have hb4 : Below wr.heap.size wr w2 := hb2.trans (hb3.mono hb2.size)
            exact ⟨_, _, _, _, _, _, _, _, _, _, _, _, _, _, _, _, _, _, _, _, _, _, _, ⟨a, b + 1, R, by omega, by omega, rfl, by go_num, hR, HSN, HBD, Lib.hid (HW.out.kept (row := none) ⟨hb4.os, hb4.tape, hb4.output, hb4.size, fun i hi _ => hb4.block i hi⟩ (.inr (by simp [Value.ownBlock]))), Lib.hid (gb_below HG.out hb4)⟩, rfl⟩
          case measure => simp [intOf]; omega
        · rw [if_neg hx] at hsn
          rw [decide_eq_false hx] at cs
          obtain ⟨y, hy⟩ : ∃ y, y = D[b] := ⟨_, rfl⟩
          rw [← hy] at hsn cs tw e0 e1 hb2
          have HR1 : Hid ((R.set a y).take (a + 1) = others x (D.take (b + 1))) := Lib.hid (by
            rw [hsn, ← HT.out, List.take_succ_eq_append_getElem (by simp; omega), List.take_set_of_le (Nat.le_refl _)]
            simp)
          have HR2 : Hid ((R.set a y).drop (b + 1) = D.drop (b + 1)) := Lib.hid (by rw [List.drop_set_of_lt (by omega)]; exact HBD.out)
          have HSET := Lib.hid (duos_set R a y (by omega))
          have HRL : Hid ((R.set a y).length = n) := Lib.hid (by simpa using hR)
          obtain ⟨y1, y2⟩ := y
          dsimp only at e0 e1 cs tw hb2 HSET
          clear hx hsn hRb hcs hy
          have han : a < n := by omega
          go_wp2_with (go_at_call 47; (with_reducible refine cs.mono ?_); rintro e w2 ⟨rfl, hb3⟩; have hb4 := hb2.trans (hb3.mono hb2.size); have HW2 := Lib.hid (HW.out.kept (row := none) (w' := w2) ⟨hb4.os, hb4.tape, hb4.output, hb4.size, fun i hi _ => hb4.block i hi⟩ (.inr (by simp [Value.ownBlock]))); obtain ⟨o0, o1, f0, f1⟩ := own_pair HW2.out hR han; obtain ⟨_, t0, t1⟩ := tw.below hb3)
          go_roundw
          case rel =>
            have hs1 := (HW2.out.stored (a * 2) (.int .i64 y1)).1
            have hs2 := (hs1.stored (a * 2 + 1) (.int .i64 y2)).1
            rw [HSET.out] at hs2
            exact ⟨_, _, _, _, _, _, _, _, _, _, _, _, _, _, _, _, _, _, _, _, _, _, _, ⟨a + 1, b + 1, R.set a (y1, y2), by omega, by omega, by go_num, by go_num, HRL.out, HR1, HR2, Lib.hid hs2, Lib.hid (gb_set (gb_set (gb_below HG.out hb4) _ _) _ _)⟩, rfl⟩
          case measure => simp [intOf]; omega
      · obtain rfl : b = n := by omega
        have hac : a < c := by omega
        have HT2 : Hid (R.take a = others x D) := Lib.hid (by have := HT.out; rwa [HN.out, List.take_length] at this)
        have hne : ¬ c = a := by omega
        have HR := Lib.hid hR
        clear hR
        go_wp2_with (refine wpList_clear_addrs (o := ⟨none, _, _, _, _, _⟩) rfl (.tmp 38) rfl (g := g) (n := b) (c := c) (i := a) (R := R) (c - a) rfl HW.out HR.out hab ?_; intro w9 HO9 HG9)
        go_ret
        have hl : a = (others x D).length := by rw [← HT2.out, List.length_take, HR.out]; omega
        have h9 := HO9.out
        rw [HT2.out] at h9
        refine ⟨_, rfl, ?_, rfl, HG.out.trans HG9.out⟩
        rw [← hl]
        exact h9
theorem first_nil (sb : Nat) (w : World) : Calls Try.prog 61 #[.slice none 0 0, segF sb] w fun e w' => e = .returned (.int .i64 (-1)) ∧ w = w' := by
  go_enter Try.func61, Try.ntmps61
  go_wp2
  refine wp_loop_rounds 1 ?_
  rw [rounds_succ]
  go_wp2
  go_ret
  exact ⟨rfl, rfl⟩
theorem delete_nil (sb : Nat) (w : World) : Calls Try.prog 46 #[.slice none 0 0, segF sb] w fun e w' => e = .returned (.slice none 0 0) ∧ w = w' := by
  have cf := first_nil sb w
  go_enter Try.func46, Try.ntmps46
  go_wp2_with (go_at_call 61; (with_reducible refine cf.mono ?_); rintro e w1 ⟨rfl, rfl⟩)
  go_ret
  exact ⟨rfl, rfl⟩
theorem delete_any {u : Value} {D : List (Int × Int)} {x : Int} {sb : Nat} {w : World} (h : w.ownsRow 0 51 2 u D.length (duos D)) (hc : w.cell? ⟨sb, 0, none⟩ = some (.int .i64 x)) (hsg : ∀ g, u.ownBlock = some g → sb ≠ g) (hn : D.length ≤ 100000) :
    Calls Try.prog 46 #[u, segF sb] w (DeleteTo D x u w) := by
  rcases h.2 with ⟨rfl, h0⟩ | ⟨g, c, cur, rfl, _, _, hnc, _⟩
  · obtain rfl : D = [] := List.eq_nil_of_length_eq_zero h0
    refine (delete_nil sb w).mono ?_
    rintro e w' ⟨rfl, rfl⟩
    exact ⟨_, rfl, World.ownsRow_nil _ _ _ _, rfl, gb_refl _ _⟩
  · exact delete_some g sb c D x w h hc (hsg g rfl) hn hnc
end Go.Proofs.YtndbjdnfibpicaaR
