/-
  append of a slice of structs of several cells, whole, onto a row of the call's own: whether the source is none, empty or not; within a region that draws, too.
  A deed done twice changes nothing more.
  The statement on what an index does, of the landed index.
  The statement on what is the same: what its walk stands on.
  The statement on what is the same, by Like.
  A slice of bytes that came in, as the row's step opens it, read as a list of bytes.
  What comes in, as the row's step opens it: a deed on an index (a struct of nine cells), a slice of such.
  The row's last step where the world behind the call is known below the old heap alone; and what the listed table gives.
  What the listed table of the lowest bits gives.
  The statement on what is the same, as the row asks.
  PROVED HERE: for every input the statement IndexSame answers true, and its arguments read afterwards as before. No condition but the listed tables of the library, which the card ties to the program's text.
-/
import Derived.Test.YtcmhodimkpkmbaaDoorVals
import Derived.Test.YtcmhodimkpkmbaaDoorAppendCells
import Derived.Deep.RegionHeld3
import Derived.Test.YtcmhodimkpkmbaaDoorIxDeeds
import Derived.Test.YtcmhodimkpkmbaaDoorIxLikeA
import Derived.Test.YtcmhodimkpkmbaaDoorIxAwake
import Derived.BigQuiet
import Derived.Deep.CutRange
import Derived.Test.YtcmhodimkpkmbaaDoorBytes
import Derived.OpenShut
import Derived.WalkKit
import Derived.ProofKit
import Derived.ChangeArms
import Derived.ChangeSame
import Derived.ChangeSlices
import Derived.Deep.Slices
import Derived.Deep.Strs
import Derived.Lib.SmallJoins
import Derived.Test.YtcmhodimkpkmbaaDoorRows
import Derived.Below
import Derived.Deep.DeepHandedRow
import Derived.Lib.LaidTab
import Derived.Lib.AppendIntMem
import Derived.Test.YtcmhodimkpkmbaaDoorBitLib
import Derived.LaidSub
import Derived.Test.YtcmhodimkpkmbaaDoorIxLike
import Derived.Test.YtcmhodimkpkmbaaDoorCards
import Derived.Test.YtcmhodimkpkmbaaDoorTie
import Derived.ShutString
import Derived.ChangeOld
import Derived.Carry
import Derived.ChangeMaps5
import Derived.LaidMore
import Derived.LaidHandle
import Derived.SevenTiedAt
section
namespace Go.Proofs.YtcmhodimkpkmbaaDoor
open Go.ChangeShapes Go.WideShapes Go.ChangeAt Go.RowKit
section
variable {P : Program} {w : World}
theorem append_rows_run (base : Nat) (t ty e : TypeId) (i : TypeInfo) (z : Value) (size by_ : Nat) (ht : P.underlying t = some (.slice e)) (hi : P.info? e = some i) (hz : i.zero = some z) (hsize : i.size = size) (hby : i.bytes = by_) (hz1 : z.cells.size = size) (hs0 : 0 < size)
    (v : Value) (n : Nat) (L : List Value) (hown : w.ownsRow base e size v n L) (B : Nat) (A : Option Addr) (m c : Nat) (M : List Value) (hb : Vs w B A (m * size) M) (hone : ∀ u ∈ M, u.oneCell' = true)
    (hlen : n + m ≤ 9223372036854775807) (hbytes : (n + m) * by_ ≤ 140737488355328) (hbase : base ≤ w.heap.size) :
    ∃ v' w', (Builtin.append_ #[t, t] ty #[v, .slice A m c]).run P w = .ok v' w' ∧ w'.ownsRow base e size v' (n + m) (L ++ M) ∧ w.grownBy w' v.ownBlock := by
  rcases A with _ | ad
  · have hm : m = 0 := by
      rcases Nat.eq_zero_or_pos m with h | h
      · exact h
      · obtain ⟨b, off, hno, _⟩ := hb.2 (Nat.mul_pos h hs0)
        cases hno
    subst hm
    obtain rfl : M = [] := List.eq_nil_of_length_eq_zero (by rw [hb.1, Nat.zero_mul])
    refine ⟨v, w, ?_, by simpa using hown, ⟨rfl, rfl, rfl, Nat.le_refl _, fun _ _ _ => rfl⟩⟩
    rcases hown.2 with ⟨rfl, rfl⟩ | ⟨g, cap, cur, rfl, _, _, hnc, _⟩
    · simp [Builtin.append_, run_underlying ht, sizeOf, typeInfo, hi, Builtin.lenOf, Builtin.firstCells]
    · simp [Builtin.append_, run_underlying ht, sizeOf, typeInfo, hi, Builtin.lenOf, Builtin.firstCells, hnc, storeCells]
  · have hcells : ∀ j u, M[j]? = some u → w.cell? (ad.add j) = some u := by
      rcases Nat.eq_zero_or_pos (m * size) with h | h
      · obtain rfl : M = [] := List.eq_nil_of_length_eq_zero (by rw [hb.1, h])
        intro j u hu
        simp at hu
      · obtain ⟨ad', he, _, hc⟩ := hb.src h
        injection he with he
        subst he
        exact hc
    obtain ⟨v', w', hr, h2, h3, _⟩ := run_append_own (P := P) w base t ty e i z size by_ ht hi hz hsize hby hz1 hs0 v n L hown ad m c M hb.1 hcells hone (by unfold maxLen; omega) hbytes hbase
    exact ⟨v', w', hr, h2, h3⟩
theorem step_append_rows {ops : Array Oper} {o : Oper} {a : Act} {K : Act → World → Prop} {Q : Exit → Act → World → Prop} {E : Prop} (hw : Region.wanted o (yielded ops a.tmps) = true) (s x : Operand) (t : TypeId)
    (ho : o.op = .call { callee := .builtin .append, args := #[s, x], argTypes := #[t, t] })
    (base : Nat) (e : TypeId) (i : TypeInfo) (z : Value) (size by_ : Nat) (ht : P.underlying t = some (.slice e)) (hi : P.info? e = some i) (hz : i.zero = some z) (hsize : i.size = size) (hby : i.bytes = by_) (hz1 : z.cells.size = size) (hs0 : 0 < size)
    (v : Value) (n : Nat) (L : List Value) (hs : a.eval s = v) (hown : w.ownsRow base e size v n L) (B : Nat) (A : Option Addr) (m c : Nat) (M : List Value) (hx : a.eval x = .slice A m c) (hb : Vs w B A (m * size) M) (hone : ∀ u ∈ M, u.oneCell' = true)
    (k : Nat) (hk : n + m = k) (R : List Value) (hR : L ++ M = R) (hlen : n + m ≤ 9223372036854775807) (hbytes : (n + m) * by_ ≤ 140737488355328) (hbase : base ≤ w.heap.size)
    (h : ∀ A' c' w', w'.ownsRow base e size (.slice A' k c') k R → w.grownBy w' v.ownBlock → K (a.put o.dst (.slice A' k c')) w') : if Region.wanted o (yielded ops a.tmps) = true then Oper.wp P o a w K Q else E := by
  rw [if_pos hw]
  subst hk hR
  obtain ⟨v', w', hrun, h2, h3⟩ := append_rows_run (P := P) base t o.type e i z size by_ ht hi hz hsize hby hz1 hs0 v n L hown B A m c M hb hone hlen hbytes hbase
  obtain ⟨A', c', rfl, -, -⟩ := Vs.of_ownN h2
  unfold Oper.wp execOp
  simp only [ho, resolve, invoke, builtin, Sem.run_bind, Sem.run_pure, Result.andThen_ok, List.map_toArray, List.map_cons, List.map_nil, hs, hx, hrun]
  exact h A' c' w' h2 h3
end
end Go.Proofs.YtcmhodimkpkmbaaDoor
end
section
namespace Go.Proofs.YtcmhodimkpkmbaaDoor
namespace Ix
theorem upd_upd (S : St) (k : Nat) (s t : Sl) : upd (upd S k s) k t = upd S k t := by
  funext j
  unfold upd
  split <;> rfl
theorem bnd1_twice (s : Sl) (b : Bd) (a : Ad) : bnd1 (bnd1 s b a) b a = bnd1 s b a := by
  by_cases h1 : b.gen ≤ s.fl
  · have e : bnd1 s b a = s := by unfold bnd1; rw [if_pos h1]
    rw [e, e]
  · by_cases h2 : s.b = false ∨ s.bind.gen < b.gen
    · have e : bnd1 s b a = ⟨true, b, a, [], s.fl, s.tomb⟩ := by unfold bnd1; rw [if_neg h1, if_pos h2]
      rw [e]
      unfold bnd1
      rw [if_neg (show ¬ b.gen ≤ s.fl from h1), if_neg (by simp), if_pos ⟨rfl, rfl, rfl, Int.le_refl _⟩]
    · by_cases h3 : b.gen = s.bind.gen ∧ b.tag = s.bind.tag ∧ b.len = s.bind.len ∧ s.bind.tick ≤ b.tick
      · have e : bnd1 s b a = { s with bind := { s.bind with tick := b.tick }, at_ := a } := by unfold bnd1; rw [if_neg h1, if_neg h2, if_pos h3]
        rw [e]
        unfold bnd1
        rw [if_neg (show ¬ b.gen ≤ s.fl from h1), if_neg (show ¬ (s.b = false ∨ s.bind.gen < b.gen) from h2), if_pos ⟨h3.1, h3.2.1, h3.2.2.1, Int.le_refl _⟩]
      · have e : bnd1 s b a = s := by unfold bnd1; rw [if_neg h1, if_neg h2, if_neg h3]
        rw [e, e]
theorem ins_twice (i : Int) (a : Ad) (l : List Sc) : ins i a (ins i a l) = ins i a l := by
  have a1 : (l.filter (fun z => decide (z.1 < i))).filter (fun z => decide (z.1 < i)) = l.filter (fun z => decide (z.1 < i)) := filter_all (fun z hz => (List.mem_filter.1 hz).2)
  have a2 : (l.filter (fun z => decide (i < z.1))).filter (fun z => decide (z.1 < i)) = [] := filter_none (fun z hz => by have h9 := (List.mem_filter.1 hz).2; simp at h9 ⊢; omega)
  have a3 : (l.filter (fun z => decide (z.1 < i))).filter (fun z => decide (i < z.1)) = [] := filter_none (fun z hz => by have h9 := (List.mem_filter.1 hz).2; simp at h9 ⊢; omega)
  have a4 : (l.filter (fun z => decide (i < z.1))).filter (fun z => decide (i < z.1)) = l.filter (fun z => decide (i < z.1)) := filter_all (fun z hz => (List.mem_filter.1 hz).2)
  have e1 : (ins i a l).filter (fun z => decide (z.1 < i)) = l.filter (fun z => decide (z.1 < i)) := by
    unfold ins
    rw [List.filter_append, List.filter_cons, if_neg (by simp), a1, a2, List.append_nil]
  have e2 : (ins i a l).filter (fun z => decide (i < z.1)) = l.filter (fun z => decide (i < z.1)) := by
    unfold ins
    rw [List.filter_append, List.filter_cons, if_neg (by simp), a3, a4, List.nil_append]
  rw [show ins i a (ins i a l) = (ins i a l).filter (fun z => decide (z.1 < i)) ++ (i, a) :: (ins i a l).filter (fun z => decide (i < z.1)) from rfl, e1, e2]
  rfl
theorem pc1_twice (s : Sl) (gen i : Int) (a : Ad) : pc1 (pc1 s gen i a) gen i a = pc1 s gen i a := by
  by_cases h : s.b = true ∧ s.bind.gen = gen ∧ 0 ≤ i ∧ i ≤ 4096
  · have e : pc1 s gen i a = { s with sl := ins i a s.sl } := by unfold pc1; rw [if_pos h]
    rw [e]
    unfold pc1
    rw [if_pos (show s.b = true ∧ s.bind.gen = gen ∧ 0 ≤ i ∧ i ≤ 4096 from h), ins_twice]
  · have e : pc1 s gen i a = s := by unfold pc1; rw [if_neg h]
    rw [e, e]
theorem fgt1_twice (s : Sl) (gen : Int) (a : Ad) : fgt1 (fgt1 s gen a) gen a = fgt1 s gen a := by
  by_cases h1 : 0 < gen ∧ s.fl ≤ gen
  · by_cases h2 : s.b = true ∧ s.bind.gen ≤ gen
    · have e : fgt1 s gen a = ⟨false, bd0, (0, 0), [], gen, a⟩ := by
        unfold fgt1
        simp only [if_pos h1]
        rw [if_pos h2]
      rw [e]
      unfold fgt1
      simp only [if_pos (show 0 < gen ∧ gen ≤ gen from ⟨h1.1, Int.le_refl _⟩)]
      rw [if_neg (by simp)]
    · have e : fgt1 s gen a = { s with fl := gen, tomb := a } := by
        unfold fgt1
        simp only [if_pos h1]
        rw [if_neg h2]
      rw [e]
      unfold fgt1
      simp only [if_pos (show 0 < gen ∧ gen ≤ gen from ⟨h1.1, Int.le_refl _⟩)]
      rw [if_neg (show ¬ (s.b = true ∧ s.bind.gen ≤ gen) from h2)]
  · by_cases h2 : s.b = true ∧ s.bind.gen ≤ gen
    · have e : fgt1 s gen a = ⟨false, bd0, (0, 0), [], s.fl, s.tomb⟩ := by
        unfold fgt1
        simp only [if_neg h1]
        rw [if_pos h2]
      rw [e]
      unfold fgt1
      simp only [if_neg (show ¬ (0 < gen ∧ s.fl ≤ gen) from h1)]
      rw [if_neg (by simp)]
    · have e : fgt1 s gen a = s := by
        unfold fgt1
        simp only [if_neg h1]
        rw [if_neg h2]
      rw [e, e]
theorem bnd_twice (S : St) (b : Bd) (a : Ad) : bnd (bnd S b a) b a = bnd S b a := by
  unfold bnd
  split
  · rw [upd_same, bnd1_twice, upd_upd]
  · rfl
theorem pc_twice (S : St) (o gen i : Int) (a : Ad) : pc (pc S o gen i a) o gen i a = pc S o gen i a := by
  unfold pc
  split
  · rw [upd_same, pc1_twice, upd_upd]
  · rfl
theorem fgt_twice (S : St) (o gen : Int) (a : Ad) : fgt (fgt S o gen a) o gen a = fgt S o gen a := by
  unfold fgt
  split
  · rw [upd_same, fgt1_twice, upd_upd]
  · rfl
theorem deed_twice (S : St) (d : Deed) : deed (deed S d) d = deed S d := by
  unfold deed
  split
  · exact pc_twice ..
  · split
    · exact fgt_twice ..
    · exact bnd_twice ..
end Ix
end Go.Proofs.YtcmhodimkpkmbaaDoor
end
section
namespace Go.Proofs.YtcmhodimkpkmbaaDoor
open Go.ChangeShapes Go.WideShapes Go.ChangeAt Go.RowKit
set_option maxRecDepth 100000

/-- that the program's index is held against the document's -/
def LikeDoes : Prop := ∀ {own : Nat → Prop} {w : World} {cs : List Value} {S T : Ix.St} {rb : Nat}, Tab64 w → LIx own w cs S → RIx w rb T → Ix.Ok S → Ix.Ok T →
  Calls Tryd.prog 8 #[.agg cs.toArray, .pointer (some ⟨rb, 0, none⟩)] w fun e w' => e = .returned (.bool (sameI S T)) ∧ Below w.heap.size w w'
theorem same_self {S : Ix.St} (h : Ix.Ok S) : sameI S S = true := (sameI_iff h h).2 fun _ _ => rfl
theorem look_none {l : List Ix.Sc} {i : Int} (h : ∀ z ∈ l, z.1 ≠ i) : Ix.look l i = none := by
  cases hl : Ix.look l i with
  | none => rfl
  | some a => exact absurd rfl (h _ (look_mem hl))

set_option maxHeartbeats 16000000 in
theorem indexDoes_any (KL : LikeDoes) (A : Option Addr) (n c : Nat) (L : List Ix.Deed) (o i : Int) (hi : W64 i) (w : World) (ht : Tab64 w) (hL : Dv w w.heap.size A n L) :
    Calls Tryd.prog 3 #[.slice A n c, .int .i64 o, .int .i64 i] w fun e w' => e = .returned (.bool true) ∧ Below w.heap.size w w' := by
  have ka := ixAwake_any ixPrg ixTells ixP_zero (ixP_length _ _) w
  have HT := Lib.hid ht
  have HL := Lib.hid hL
  by_cases hn : 60 < n
  · have d1 : decide ((60 : Int) < (n : Int)) = true := decide_eq_true (by omega)
    clear hL ht
    go_enter Tryd.func3, Tryd.ntmps3
    go_wp2_with (go_at_call 5; (with_reducible refine ka.mono ?_); rintro e w1 ⟨rfl, hb1⟩)
    go_ret
    exact ⟨rfl, hb1⟩
  · have d1 : decide ((60 : Int) < (n : Int)) = false := decide_eq_false (by omega)
    clear hL ht
    obtain ⟨S, hS⟩ : ∃ S, S = Ix.made L := ⟨_, rfl⟩
    have HS : Hid (Ix.Ok S) := Lib.hid (by rw [hS]; exact Ix.ok_made L)
    have kL : ∀ {own : Nat → Prop} {W : World} {cs : List Value} {rb : Nat}, Tab64 W → LIx own W cs S → RIx W rb S → Calls Tryd.prog 8 #[.agg cs.toArray, .pointer (some ⟨rb, 0, none⟩)] W fun e w' => e = .returned (.bool true) ∧ Below W.heap.size W w' := fun h1 h2 h3 => by
      have h9 := KL h1 h2 h3 HS.out HS.out
      rwa [same_self HS.out] at h9
    obtain ⟨lo, hlo⟩ : ∃ lo, lo = Ix.look (Ix.see S o).sl i := ⟨_, rfl⟩
    have HLO := Lib.hid hlo
    have hz := ixP_zero
    obtain ⟨is9, his⟩ : ∃ b, b = lo.isSome := ⟨_, rfl⟩
    obtain ⟨⟨lk1, lk2⟩, hlk⟩ : ∃ a, a = lo.getD (0, 0) := ⟨_, rfl⟩
    have HIS := Lib.hid his
    have HLK := Lib.hid hlk
    have HI := Lib.hid hi
    have cA : ∀ {own : Nat → Prop} {W : World} {cs : List Value}, LIx own W cs S → Calls Tryd.prog 7 #[.agg cs.toArray, .int .i64 o, .int .i64 i] W fun e w' => e = .returned (.tuple #[adV (lk1, lk2), .bool is9]) ∧ Below W.heap.size W w' := fun h => by
      rw [hlk, his, hlo]
      exact lxAt_any o i HI.out h
    clear hlo his hlk hi
    have km : ∀ W, Below w.heap.size w W → Calls Tryd.prog 6 #[.slice A n c] W (MadeTo LIx S W) := fun W hb => by
      rw [hS]
      exact made_any ixPrg ixP_zero (ixP_length _ _) A n c L W ((Vs.below HL.out hb).mono hb.size) (by omega)
    clear hS
    go_enter Tryd.func3, Tryd.ntmps3
    go_upto_region 7 with (first
      | (go_at_call 5; (with_reducible refine ka.mono ?_); rintro e w1 ⟨rfl, hb1⟩; have HB1 := Lib.hid hb1; clear hb1 ka)
      | (go_at_call 6; (with_reducible refine (km _ HB1.out).mono ?_); rintro e w2 ⟨cs, own, rb, rfl, hR, ho, hx, hr, hb2⟩; have hv := var_set ixPrg (z0 := ixP Ix.st0 fun _ => .map none) (ixP_length _ _) hR; have HT1 := hv.1; have HS1 := hv.2.1; have HO1 := all_oneCell_toArray (ixPrg.one hR); obtain ⟨w3, hw3⟩ : ∃ w3, w3 = (w2.alloc (.cells (ixP Ix.st0 fun _ => .map none).toArray 35)).setCells w2.heap.size 0 cs := ⟨_, rfl⟩; have HW3 := Lib.hid hw3; have hv2 := hv.2.2; rw [← hw3] at hv2; have HXB := Lib.hid hv2.1; have HR3 := Lib.hid hv2.2.1; have HX3 := Lib.hid (hx.below hv2.2.2); have HB3 := Lib.hid (HB1.out.trans ((hb2.trans (hv2.2.2.mono hb2.size)).mono HB1.out.size)); clear km hw3 hv hv2 hb2 ho hx hr hR)
      | (refine wpList_store_mid (by rfl) 35 (.tmp 7) (.tmp 21) (by rfl) w2.heap.size 0 cs.toArray (by rfl) (by rfl) HT1 HS1 HO1 ?_; rw [List.toList_toArray, ← HW3.out])
      | (refine wpList_load_mid (by rfl) 35 (.tmp 7) (by rfl) w2.heap.size 0 (by rfl) cs _ HXB.out.range Tryd.underlying35 (by rfl) HS1 ?_)
      | (go_at_call 7; (with_reducible refine (cA HR3.out).mono ?_); rintro e w4 ⟨rfl, hb4⟩; have hb4a := hb4.alloc hb4.size (adO (lk1, lk2)); have HB4 := Lib.hid hb4a; have HA4 : Hid ((w4.alloc (adO (lk1, lk2))).heap[w4.heap.size]? = some (adO (lk1, lk2))) := Lib.hid (heap_alloc_new w4 _); clear hb4 hb4a cA))
    obtain ⟨w5, hw5⟩ : ∃ w5, w5 = w4.alloc (.cells #[.int .i64 lk1, .int .i64 lk2] 30) := ⟨_, rfl⟩
    have hb5 := HB4.out
    have ha5 := HA4.out
    try dsimp only [adO] at hb5 ha5
    rw [← hw5] at hb5 ha5 ⊢
    have HB5 := Lib.hid hb5
    have HBW : Hid (Below w.heap.size w w5) := Lib.hid (HB3.out.trans (hb5.mono HB3.out.size))
    have HX5B := Lib.hid (HXB.out.below hb5)
    have HR5 := Lib.hid (ixPrg.on HR3.out hb5)
    have HX5 := Lib.hid (HX3.out.below hb5)
    have HT5 := Lib.hid (HT.out.on HBW.out)
    have hc := fun j => cells_at (C := [.int .i64 lk1, .int .i64 lk2]) ha5 j
    have f0 : w5.cell? ⟨w4.heap.size, 0, none⟩ = some (.int .i64 lk1) := hc 0
    have f1 : w5.cell? ⟨w4.heap.size, 1, none⟩ = some (.int .i64 lk2) := hc 1
    have hlt := lt_of_at ha5
    obtain ⟨b9, hb9⟩ : ∃ b, b = w4.heap.size := ⟨_, rfl⟩
    rw [← hb9] at f0 f1 hlt ⊢
    have HF0 := Lib.hid f0
    have HF1 := Lib.hid f1
    have HLT := Lib.hid hlt
    clear hc hw5 hb9 hb5 ha5 f0 f1 hlt HB4 HA4 HXB HR3 HX3 HT1 HO1 hz HW3
    by_cases hr : o < 0 ∨ 15 < o
    · have HSE : Hid (Ix.see S o = Ix.sl0) := Lib.hid (by
        unfold Ix.see
        rw [if_neg (by unfold Ix.may; simp; omega)])
      have HN : Hid (lo = none) := Lib.hid (by rw [HLO.out, HSE.out]; rfl)
      obtain rfl : is9 = false := by rw [HIS.out, HN.out]; rfl
      have hl2 : ((lk1, lk2) : Ix.Ad) = (0, 0) := by rw [HLK.out, HN.out]; rfl
      obtain ⟨rfl, rfl⟩ : lk1 = 0 ∧ lk2 = 0 := ⟨congrArg Prod.fst hl2, congrArg Prod.snd hl2⟩
      have hq := ad_eql (0, 0) (0, 0)
      rw [show adB (0, 0) (0, 0) = true from adB_iff.2 rfl] at hq
      try dsimp only [adV] at hq
      clear hl2
      by_cases h1 : o < 0
      · have k1 : decide (o < 0) = true := decide_eq_true h1
        clear hr h1
        go_wp2_with (first
          | (refine wpList_load_mid (by rfl) 35 (.tmp 7) (by rfl) w2.heap.size 0 (by rfl) cs _ HX5B.out.range Tryd.underlying35 (by rfl) HS1 ?_)
          | (go_at_call 8; (with_reducible refine (kL HT5.out HR5.out HX5.out).mono ?_); rintro e w6 ⟨rfl, hb6⟩; have g0 := (hb6.cell (p := ⟨b9, 0, none⟩) HLT.out).trans HF0.out; have g1 := (hb6.cell (p := ⟨b9, 1, none⟩) HLT.out).trans HF1.out; have HB6 := Lib.hid (HBW.out.trans (hb6.mono HBW.out.size)); clear hb6))
        go_ret
        exact ⟨rfl, HB6.out⟩
      · have k1 : decide (o < 0) = false := decide_eq_false h1
        have k2 : decide (15 < o) = true := decide_eq_true (by omega)
        clear hr h1
        go_wp2_with (first
          | (refine wpList_load_mid (by rfl) 35 (.tmp 7) (by rfl) w2.heap.size 0 (by rfl) cs _ HX5B.out.range Tryd.underlying35 (by rfl) HS1 ?_)
          | (go_at_call 8; (with_reducible refine (kL HT5.out HR5.out HX5.out).mono ?_); rintro e w6 ⟨rfl, hb6⟩; have g0 := (hb6.cell (p := ⟨b9, 0, none⟩) HLT.out).trans HF0.out; have g1 := (hb6.cell (p := ⟨b9, 1, none⟩) HLT.out).trans HF1.out; have HB6 := Lib.hid (HBW.out.trans (hb6.mono HBW.out.size)); clear hb6))
        go_ret
        exact ⟨rfl, HB6.out⟩
    · have k1 : decide (o < 0) = false := decide_eq_false (by omega)
      have k2 : decide (15 < o) = false := decide_eq_false (by omega)
      obtain ⟨k, rfl⟩ : ∃ k : Nat, o = (k : Int) := ⟨o.toNat, by omega⟩
      have hk : k < 16 := by omega
      have HE : Hid (Ix.see S (k : Int) = S k) := Lib.hid (Ix.see_of9 hk)
      obtain ⟨H, hH, hrow⟩ := HX5.out
      have hcell : w5.cell? ⟨rb, k * 12 + 8, none⟩ = some (H k) := slot_range hH hk 8 _ rfl
      obtain ⟨Av, cv, hHk, hcv, hrows⟩ := hrow k hk
      rw [hHk] at hcell
      have HOK1 : Hid (Ix.Ok1 (S k)) := Lib.hid (by have h9 := ok_see HS.out (k : Int); rwa [HE.out] at h9)
      have HLO2 : Hid (lo = Ix.look (S k).sl i) := Lib.hid (by rw [← HE.out]; exact HLO.out)
      have HROWS := Lib.hid hrows
      have HRISE := Lib.hid HOK1.out.rise
      have HNL : Hid ((S k).sl.length ≤ 4097) := Lib.hid (ok_len HOK1.out)
      generalize (S k).sl = sl at *
      obtain ⟨n2, hn2⟩ : ∃ n2, n2 = sl.length := ⟨_, rfl⟩
      rw [← hn2] at hcell
      have HN2 := Lib.hid hn2
      have hk0 : (0 : Int) ≤ (k : Int) := by omega
      have hk1 : (k : Int) < 16 := by omega
      clear hn2 hH hrow hHk hcv hrows hr HOK1 HE HLO
      go_wp2_with fail
      go_loopw [56] (fun v wr => ∃ j : Nat, j ≤ n2 ∧ v = .int .i64 j ∧ Hid ((∀ z ∈ sl.take j, z.1 ≠ i) ∧ Below w5.heap.size w5 wr)) (fun v _ => n2 - (intOf v).toNat)
      case atStart => exact ⟨0, by omega, rfl, Lib.hid ⟨fun z hz => by simp at hz, Below.refl _ _⟩⟩
      case round =>
        obtain ⟨j, hj, rfl, HR⟩ := hrel
        have HBR := Lib.hid (HBW.out.trans (HR.out.2.mono HBW.out.size))
        have HB5R := Lib.hid HR.out.2
        have HBX := Lib.hid (HX5B.out.below HR.out.2)
        have HRR := Lib.hid (ixPrg.on HR5.out HR.out.2)
        have HXR := Lib.hid (HX5.out.below HR.out.2)
        have HTR := Lib.hid (HT.out.on HBR.out)
        have hf0 := (HR.out.2.cell (p := ⟨b9, 0, none⟩) HLT.out).trans HF0.out
        have hf1 := (HR.out.2.cell (p := ⟨b9, 1, none⟩) HLT.out).trans HF1.out
        have HG0 := Lib.hid hf0
        have HG1 := Lib.hid hf1
        have HLTR : Hid (b9 < wr.heap.size) := Lib.hid (Nat.lt_of_lt_of_le HLT.out HR.out.2.size)
        clear hf0 hf1
        by_cases hlt : j < n2
        · have hj2 : j < sl.length := by rw [← HN2.out]; exact hlt
          obtain ⟨g, off, cur, rfl, hg, -, hcells⟩ := HROWS.out (by omega)
          have hgl := (Array.getElem?_eq_some_iff.1 hg).1
          have hcel : ∀ x (hx : x < (scV sl).length), wr.cell? ⟨g, off + x, none⟩ = some (scV sl)[x] := fun x hx => (World.cell?_of_block (HR.out.2.block g hgl)).trans (hcells x hx)
          obtain ⟨v0, v1, v2⟩ := scV_get sl j hj2
          have q0 : wr.cell? ⟨g, off + j * 3, none⟩ = some (.int .i64 sl[j].1) := by
            have h9 := hcel (j * 3) (by rw [scV_length]; omega)
            rw [h9, ← v0, List.getElem?_eq_getElem]
          have q1 : wr.cell? ⟨g, off + j * 3 + 1, none⟩ = some (.int .i64 sl[j].2.1) := by
            have h9 := hcel (j * 3 + 1) (by rw [scV_length]; omega)
            rw [Nat.add_assoc, h9, ← v1, List.getElem?_eq_getElem]
          have q2 : wr.cell? ⟨g, off + j * 3 + 2, none⟩ = some (.int .i64 sl[j].2.2) := by
            have h9 := hcel (j * 3 + 2) (by rw [scV_length]; omega)
            rw [Nat.add_assoc, h9, ← v2, List.getElem?_eq_getElem]
          have hmem : sl[j] ∈ sl := List.getElem_mem hj2
          have HLM := Lib.hid (look_of_mem HRISE.out hmem)
          have HNX : Hid (sl[j].1 ≠ i → ∀ z ∈ sl.take (j + 1), z.1 ≠ i) := Lib.hid fun h z hz => by
            rw [List.take_succ_eq_append_getElem hj2] at hz
            rcases List.mem_append.1 hz with hz | hz
            · exact HR.out.1 z hz
            · rw [List.mem_singleton.1 hz]; exact h
          generalize sl[j] = z at *
          obtain ⟨z1, za, zb⟩ := z
          dsimp only at q0 q1 q2 HLM HNX
          have h9 := HNL.out
          rw [← HN2.out] at h9
          clear hj2 hg hgl hcells hcel v0 v1 v2 hmem hj hcell
          by_cases hz : z1 = i
          · have kz : (z1 == i) = true := by simp [hz]
            have HL2 : Hid (lo = some (za, zb)) := Lib.hid (by rw [HLO2.out, ← hz]; exact HLM.out)
            obtain rfl : is9 = true := by rw [HIS.out, HL2.out]; rfl
            have hl2 : ((lk1, lk2) : Ix.Ad) = (za, zb) := by rw [HLK.out, HL2.out]; rfl
            obtain ⟨rfl, rfl⟩ : lk1 = za ∧ lk2 = zb := ⟨congrArg Prod.fst hl2, congrArg Prod.snd hl2⟩
            have hq := ad_eql (lk1, lk2) (lk1, lk2)
            rw [show adB (lk1, lk2) (lk1, lk2) = true from adB_iff.2 rfl] at hq
            try dsimp only [adV] at hq
            obtain ⟨wy, hwy⟩ : ∃ wy, wy = wr.alloc (.cells #[.int .i64 z1, .int .i64 lk1, .int .i64 lk2] 49) := ⟨_, rfl⟩
            have hby : Below wr.heap.size wr wy := by rw [hwy]; exact (Below.refl _ wr).alloc (Nat.le_refl _) _
            have hzy : wy.heap[wr.heap.size]? = some (.cells #[.int .i64 z1, .int .i64 lk1, .int .i64 lk2] 49 (0, 0)) := by rw [hwy]; exact heap_alloc_new wr _
            have HZY := Lib.hid hzy
            have HBY := Lib.hid (HBR.out.trans (hby.mono HBR.out.size))
            have HBXY := Lib.hid (HBX.out.below hby)
            have HRY := Lib.hid (ixPrg.on HRR.out hby)
            have HXY := Lib.hid (HXR.out.below hby)
            have HTY := Lib.hid (HT.out.on HBY.out)
            have HG0Y := Lib.hid ((hby.cell (p := ⟨b9, 0, none⟩) HLTR.out).trans HG0.out)
            have HG1Y := Lib.hid ((hby.cell (p := ⟨b9, 1, none⟩) HLTR.out).trans HG1.out)
            have HLTY : Hid (b9 < wy.heap.size) := Lib.hid (Nat.lt_of_lt_of_le HLTR.out hby.size)
            obtain ⟨y0, y1, y2⟩ := cells3 hzy
            clear hl2 hby hzy hz
            go_upto_region 12 with fail
            rw [← hwy]
            clear hwy
            go_wp2_with (first
              | (refine wpList_load_mid (by rfl) 35 (.tmp 7) (by rfl) w2.heap.size 0 (by rfl) cs _ HBXY.out.range Tryd.underlying35 (by rfl) HS1 ?_)
              | (go_at_call 8; (with_reducible refine (kL HTY.out HRY.out HXY.out).mono ?_); rintro e w6 ⟨rfl, hb6⟩; have g0 := (hb6.cell (p := ⟨b9, 0, none⟩) HLTY.out).trans HG0Y.out; have g1 := (hb6.cell (p := ⟨b9, 1, none⟩) HLTY.out).trans HG1Y.out; have HB6 := Lib.hid (HBY.out.trans (hb6.mono HBY.out.size)); obtain ⟨x0, x1, x2⟩ := cells3 ((hb6.block _ (lt_of_at HZY.out)).trans HZY.out); clear hb6 y0 y1 y2))
            go_ret
            exact ⟨rfl, HB6.out⟩
          · have kz : (z1 == i) = false := by simpa using hz
            have HN2X := Lib.hid (HNX.out hz)
            clear hz
            go_wp2_with fail
            go_roundw
            case rel => exact ⟨j + 1, by omega, by go_num, Lib.hid ⟨HN2X.out, HB5R.out.alloc HB5R.out.size _⟩⟩
            case measure => simp [intOf]; omega
        · obtain rfl : j = n2 := by omega
          have d9 : decide ((j : Int) < (j : Int)) = false := by simp
          have HN : Hid (lo = none) := Lib.hid (by
            rw [HLO2.out]
            exact look_none fun z hz => HR.out.1 z (by rw [List.take_of_length_le (by rw [← HN2.out]; exact Nat.le_refl _)]; exact hz))
          obtain rfl : is9 = false := by rw [HIS.out, HN.out]; rfl
          clear hlt hj
          go_wp2_with (first
            | (refine wpList_load_mid (by rfl) 35 (.tmp 7) (by rfl) w2.heap.size 0 (by rfl) cs _ HBX.out.range Tryd.underlying35 (by rfl) HS1 ?_)
            | (go_at_call 8; (with_reducible refine (kL HTR.out HRR.out HXR.out).mono ?_); rintro e w6 ⟨rfl, hb6⟩; have HB6 := Lib.hid (HBR.out.trans (hb6.mono HBR.out.size)); clear hb6))
          go_ret
          exact ⟨rfl, HB6.out⟩
end Go.Proofs.YtcmhodimkpkmbaaDoor
end
section
namespace Go.Proofs.YtcmhodimkpkmbaaDoor
open Go.ChangeShapes Go.WideShapes Go.ChangeAt Go.RowKit
set_option maxRecDepth 100000

/-- a deed as a value -/
abbrev ddG (d : Ix.Deed) : Value := .agg #[.int .i64 d.kind, .int .i64 d.b.obj, .int .i64 d.b.gen, .string d.b.tag, .int .i64 d.b.len, .int .i64 d.b.tick, .int .i64 d.i, .int .i64 d.a.1, .int .i64 d.a.2]
theorem dd_size : (Tryd.prog.info? 52).map (·.size) = some 9 := by kernel_rfl
theorem dd_parts : ∃ i z, Tryd.prog.info? 52 = some i ∧ i.zero = some z ∧ z.cells.size = 9 ∧ i.size = 9 ∧ i.bytes = 80 := by
  have h : (Tryd.prog.info? 52).map (fun i => (i.zero.map (·.cells.size), i.size, i.bytes)) = some (some 9, 9, 80) := by kernel_rfl
  cases hi : Tryd.prog.info? 52 with
  | none => rw [hi] at h; cases h
  | some i =>
    rw [hi] at h
    simp only [Option.map_some, Option.some.injEq, Prod.mk.injEq] at h
    obtain ⟨h1, h2, h3⟩ := h
    cases hz : i.zero with
    | none => rw [hz] at h1; cases h1
    | some z =>
      rw [hz] at h1
      exact ⟨i, z, rfl, hz, Option.some.inj h1, h2, h3⟩
theorem dv_of_own {W : World} {base k c : Nat} {A : Option Addr} {L : List Ix.Deed} (h : W.ownsRow base 52 9 (.slice A k c) k (ddV L)) : Dv W W.heap.size A k L := by
  obtain ⟨A', c', e1, h2, -⟩ := Vs.of_ownN h
  injection e1 with e1
  subst e1
  exact h2
set_option maxHeartbeats 4000000 in
theorem build_nine {dc : List Value} {d : Ix.Deed} (h : dc = ddC d) : (if ¬dc.length = 9 ∨ 9 < dc.length then none else some (List.foldl (fun cs (x : Value × Nat) => cs.setIfInBounds x.snd x.fst) #[Value.int IntKind.i64 0, Value.int IntKind.i64 0, Value.int IntKind.i64 0, Value.string { data := #[] }, Value.int IntKind.i64 0, Value.int IntKind.i64 0, Value.int IntKind.i64 0, Value.int IntKind.i64 0, Value.int IntKind.i64 0] dc.zipIdx)) = some dc.toArray := by
  subst h
  kernel_rfl
/-- a variable that an append leaves alone -/
theorem zb_kept {W W' : World} {b base k : Nat} {v : Value} {xs zs : List Value} (h : IxBox W b zs) (hg : W.grownBy W' v.ownBlock) (ho : W.ownsRow base 52 9 v k xs) : IxBox W' b zs := by
  refine (hg.block b h.lt fun e => ?_).trans h
  rcases ho.2 with ⟨rfl, _⟩ | ⟨g, cap, cur, rfl, _, hgb, _⟩
  · simp [Value.ownBlock] at e
  · obtain rfl : b = g := by simpa [Value.ownBlock] using e
    have h2 : W.heap[b]? = some (.cells zs.toArray 35 (0, 0)) := h
    rw [hgb] at h2
    injection h2 with h2
    injection h2 with _ h2
    exact absurd h2 (by decide)
/-- an index in a variable, and the document's beside it -/
def Pair (b rb : Nat) (cs : List Value) (own : Nat → Prop) (S : Ix.St) (W : World) : Prop := IxBox W b cs ∧ LIx own W cs S ∧ RIx W rb S
theorem Pair.on {b rb : Nat} {cs : List Value} {own : Nat → Prop} {S : Ix.St} {W W' : World} (h : Pair b rb cs own S W) (hb : Below W.heap.size W W') : Pair b rb cs own S W' :=
  ⟨h.1.below hb, ixPrg.on h.2.1 hb, h.2.2.below hb⟩
abbrev zP : List Value := ixP Ix.st0 fun _ => .map none
/-- what Made answers, put into a variable -/
theorem pair_put {W w5 : World} {b rb : Nat} {cs : List Value} {own : Nat → Prop} {S : Ix.St} (h : IxBox W b zP) (hr : LIx own W cs S) (hne : ∀ i, own i → i ≠ b) (hx : RIx W rb S) (hrb : rb ≠ b) (hb : Below w5.heap.size w5 W) (hbz : w5.heap.size ≤ b) :
    Pair b rb cs own S (W.setCells b 0 cs) ∧ Below w5.heap.size w5 (W.setCells b 0 cs) := by
  have hel := Else.setCells cs 0 W (Else.refl b W)
  exact ⟨⟨h.put ((ixPrg.len hr).trans (ixP_length _ _).symm), ixPrg.frame hr fun i hi => hel.same i (hne i hi), hx.other hrb h (by decide) hel.same⟩, below_cells cs b 0 W hbz hb⟩
end Go.Proofs.YtcmhodimkpkmbaaDoor
end
section
namespace Go.Proofs.YtcmhodimkpkmbaaDoor
open Go.ChangeShapes Go.WideShapes Go.ChangeAt Go.RowKit
set_option maxRecDepth 100000

theorem like_self (KL : LikeDoes) {b rb : Nat} {cs : List Value} {own : Nat → Prop} {S : Ix.St} {W : World} (ht : Tab64 W) (h : Pair b rb cs own S W) (hS : Ix.Ok S) :
    Calls Tryd.prog 8 #[.agg cs.toArray, .pointer (some ⟨rb, 0, none⟩)] W fun e w' => e = .returned (.bool true) ∧ Below W.heap.size W w' := by
  have h9 := KL ht h.2.1 h.2.2 hS hS
  rwa [same_self hS] at h9
theorem like_two (KL : LikeDoes) {b rb b2 rb2 : Nat} {cs cs2 : List Value} {own own2 : Nat → Prop} {S S2 : Ix.St} {W : World} {q : Bool} (ht : Tab64 W) (h : Pair b rb cs own S W) (h2 : Pair b2 rb2 cs2 own2 S2 W) (hS : Ix.Ok S) (hS2 : Ix.Ok S2) (hq : sameI S S2 = q) :
    Calls Tryd.prog 8 #[.agg cs.toArray, .pointer (some ⟨rb2, 0, none⟩)] W fun e w' => e = .returned (.bool q) ∧ Below W.heap.size W w' := by
  rw [← hq]
  exact KL ht h.2.1 h2.2.2 hS hS2
theorem same_two {b rb b2 rb2 : Nat} {cs cs2 : List Value} {own own2 : Nat → Prop} {S S2 : Ix.St} {W : World} {q : Bool} (h : Pair b rb cs own S W) (h2 : Pair b2 rb2 cs2 own2 S2 W) (hS : Ix.Ok S) (hS2 : Ix.Ok S2) (hq : sameI S S2 = q) :
    Calls Tryd.prog 12 #[.agg cs.toArray, .agg cs2.toArray] W fun e w' => e = .returned (.bool q) ∧ Below W.heap.size W w' := by
  rw [← hq]
  exact lxSame_any h.2.1 h2.2.1 hS hS2
theorem build_eighteen {dc d2 : List Value} {d : Ix.Deed} (h : dc = ddC d) (h2 : d2 = dc ++ dc) : (if ¬dc.length = 9 ∨ 18 < dc.length then none else if ¬dc.length = 9 ∨ (List.foldl (fun cs (x : Value × Nat) => cs.setIfInBounds x.snd x.fst) #[Value.int IntKind.i64 0, Value.int IntKind.i64 0, Value.int IntKind.i64 0, Value.string { data := #[] }, Value.int IntKind.i64 0, Value.int IntKind.i64 0, Value.int IntKind.i64 0, Value.int IntKind.i64 0, Value.int IntKind.i64 0, Value.int IntKind.i64 0, Value.int IntKind.i64 0, Value.int IntKind.i64 0, Value.string { data := #[] }, Value.int IntKind.i64 0, Value.int IntKind.i64 0, Value.int IntKind.i64 0, Value.int IntKind.i64 0, Value.int IntKind.i64 0] dc.zipIdx).size < 9 + dc.length then none else some (List.foldl (fun cs (x : Value × Nat) => cs.setIfInBounds (9 + x.snd) x.fst) (List.foldl (fun cs (x : Value × Nat) => cs.setIfInBounds x.snd x.fst) #[Value.int IntKind.i64 0, Value.int IntKind.i64 0, Value.int IntKind.i64 0, Value.string { data := #[] }, Value.int IntKind.i64 0, Value.int IntKind.i64 0, Value.int IntKind.i64 0, Value.int IntKind.i64 0, Value.int IntKind.i64 0, Value.int IntKind.i64 0, Value.int IntKind.i64 0, Value.int IntKind.i64 0, Value.string { data := #[] }, Value.int IntKind.i64 0, Value.int IntKind.i64 0, Value.int IntKind.i64 0, Value.int IntKind.i64 0, Value.int IntKind.i64 0] dc.zipIdx) dc.zipIdx)) = some d2.toArray := by
  subst h2
  subst h
  kernel_rfl
set_option maxHeartbeats 16000000 in
theorem indexSame_any (KL : LikeDoes) (A : Option Addr) (n c : Nat) (L : List Ix.Deed) (d : Ix.Deed) (A9 : Option Addr) (n9 c9 : Nat) (L9 : List Ix.Deed) (w : World) (ht : Tab64 w) (hL : Dv w w.heap.size A n L) (hL9 : Dv w w.heap.size A9 n9 L9) :
    Calls Tryd.prog 4 #[.slice A n c, ddG d, .slice A9 n9 c9] w fun e w' => e = .returned (.bool true) ∧ Below w.heap.size w w' := by
  have hbD : Below w.heap.size w (w.alloc (.cells (ddC d).toArray 52)) := (Below.refl _ w).alloc (Nat.le_refl _) _
  have hD : (w.alloc (.cells (ddC d).toArray 52)).heap[w.heap.size]? = some (.cells (ddC d).toArray 52 (0, 0)) := heap_alloc_new w _
  have HT := Lib.hid ht
  have HL := Lib.hid hL
  have HL9 := Lib.hid hL9
  have ka := ixAwake_any ixPrg ixTells ixP_zero (ixP_length _ _) (w.alloc (.cells (ddC d).toArray 52))
  have HBD := Lib.hid hbD
  have HD := Lib.hid hD
  have HDD := Lib.hid (show ddG d = .agg (ddC d).toArray from rfl)
  rw [HDD.out]
  have hcl : (ddC d).length = 9 := rfl
  have HCL := Lib.hid hcl
  have hinf : (Tryd.prog.info? 52).map (·.size) = some (ddC d).length := dd_size
  have HINF := Lib.hid hinf
  have HONE : Hid (∀ u ∈ ddC d, u.oneCell' = true) := Lib.hid fun u hu => ddV_one [d] u (by simpa [ddV] using hu)
  have HDC : Hid (ddC d = ddV [d]) := Lib.hid (by simp [ddV])
  clear ht hL hL9 hbD hD hcl hinf
  obtain ⟨dc, hdc⟩ : ∃ dc, dc = ddC d := ⟨_, rfl⟩
  rw [← hdc] at HD HDD HCL HINF HONE HDC
  have HDC0 := Lib.hid hdc
  rw [← hdc]
  try rw [← hdc] at ka
  try rw [← hdc] at HBD
  clear hdc
  by_cases hn : 40 < n
  · have d1 : decide ((40 : Int) < (n : Int)) = true := decide_eq_true (by omega)
    go_enter Tryd.func4, Tryd.ntmps4
    go_wp2_with (go_at_call 5; (with_reducible refine ka.mono ?_); rintro e w1 ⟨rfl, hb1⟩)
    go_ret
    exact ⟨rfl, HBD.out.trans (hb1.mono HBD.out.size)⟩
  · have d1 : decide ((40 : Int) < (n : Int)) = false := decide_eq_false (by omega)
    by_cases hn9 : 40 < n9
    · have d2 : decide ((40 : Int) < (n9 : Int)) = true := decide_eq_true (by omega)
      go_enter Tryd.func4, Tryd.ntmps4
      go_wp2_with (go_at_call 5; (with_reducible refine ka.mono ?_); rintro e w1 ⟨rfl, hb1⟩)
      go_ret
      exact ⟨rfl, HBD.out.trans (hb1.mono HBD.out.size)⟩
    · have d2 : decide ((40 : Int) < (n9 : Int)) = false := decide_eq_false (by omega)
      have HN := Lib.hid hn
      have HN9 := Lib.hid hn9
      have hz : ∀ W, (zeroValue 35).run Tryd.prog W = .ok (.agg zP.toArray) W := ixP_zero
      have km : ∀ W, Below w.heap.size w W → Calls Tryd.prog 6 #[.slice A n c] W (MadeTo LIx (Ix.made L) W) := fun W hb => made_any ixPrg ixP_zero (ixP_length _ _) A n c L W ((Vs.below HL.out hb).mono hb.size) (by have := HN.out; omega)
      have km9 : ∀ W, Below w.heap.size w W → Calls Tryd.prog 6 #[.slice A9 n9 c9] W (MadeTo LIx (Ix.made L9) W) := fun W hb => made_any ixPrg ixP_zero (ixP_length _ _) A9 n9 c9 L9 W ((Vs.below HL9.out hb).mono hb.size) (by have := HN9.out; omega)
      obtain ⟨S1, hS1⟩ : ∃ S, S = Ix.made L := ⟨_, rfl⟩
      obtain ⟨S2, hS2⟩ : ∃ S, S = Ix.made L9 := ⟨_, rfl⟩
      rw [← hS1] at km
      rw [← hS2] at km9
      have HOK1 : Hid (Ix.Ok S1) := Lib.hid (by rw [hS1]; exact Ix.ok_made L)
      have HOK2 : Hid (Ix.Ok S2) := Lib.hid (by rw [hS2]; exact Ix.ok_made L9)
      have HS1E := Lib.hid hS1
      clear hS1 hS2 hn hn9
      go_enter Tryd.func4, Tryd.ntmps4
      go_upto_region 6 with (first
        | (go_at_call 5; (with_reducible refine ka.mono ?_); rintro e w1 ⟨rfl, hb1⟩; have HB1 := Lib.hid (HBD.out.trans (hb1.mono HBD.out.size)); have HD1 := Lib.hid ((hb1.block _ (Array.getElem?_eq_some_iff.1 HD.out).1).trans HD.out); clear hb1 ka)
        | (go_at_call 6; (with_reducible refine (km _ HB1.out).mono ?_); rintro e w2 ⟨cs1, own1, rb1, rfl, hR, ho, hx, hr, hb2⟩; have hv := var_set ixPrg (z0 := zP) (ixP_length _ _) hR; have HT1 := hv.1; have HS1 := hv.2.1; have HO1 := all_oneCell_toArray (ixPrg.one hR); obtain ⟨w3, hw3⟩ : ∃ w3, w3 = (w2.alloc (.cells zP.toArray 35)).setCells w2.heap.size 0 cs1 := ⟨_, rfl⟩; have HW3 := Lib.hid hw3; have hv2 := hv.2.2; rw [← hw3] at hv2; have HP1 : Hid (Pair w2.heap.size rb1 cs1 own1 S1 w3) := Lib.hid ⟨hv2.1, hv2.2.1, hx.below hv2.2.2⟩; have HB13 := Lib.hid (hb2.trans (hv2.2.2.mono hb2.size)); have HB3 := Lib.hid (HB1.out.trans (HB13.out.mono HB1.out.size)); have HD3 := Lib.hid ((HB13.out.block _ (Array.getElem?_eq_some_iff.1 HD1.out).1).trans HD1.out); clear km hw3 hv hv2 hb2 ho hx hr hR)
        | (refine wpList_store_mid (by rfl) 35 (.tmp 7) (.tmp 28) (by rfl) w2.heap.size 0 cs1.toArray (by rfl) (by rfl) HT1 HS1 HO1 ?_; rw [List.toList_toArray, ← HW3.out]))
      obtain ⟨b1, hb1⟩ : ∃ b, b = w2.heap.size := ⟨_, rfl⟩
      rw [← hb1] at HP1 ⊢
      clear HT1 HO1 HW3 hb1 HB13 HD1
      go_upto_region 7 with (first
        | (go_at_call 6; (with_reducible refine (km9 _ HB3.out).mono ?_); rintro e w4 ⟨cs2, own2, rb2, rfl, hR, ho, hx, hr, hb2⟩; have hv := var_set ixPrg (z0 := zP) (ixP_length _ _) hR; have HT2 := hv.1; have HS2 := hv.2.1; have HO2 := all_oneCell_toArray (ixPrg.one hR); obtain ⟨w5, hw5⟩ : ∃ w5, w5 = (w4.alloc (.cells zP.toArray 35)).setCells w4.heap.size 0 cs2 := ⟨_, rfl⟩; have HW5 := Lib.hid hw5; have hv2 := hv.2.2; rw [← hw5] at hv2; have hb35 := hb2.trans (hv2.2.2.mono hb2.size); have HP2 : Hid (∀ W, Below w5.heap.size w5 W → Pair w4.heap.size rb2 cs2 own2 S2 W) := Lib.hid fun W h => Pair.on ⟨hv2.1, hv2.2.1, hx.below hv2.2.2⟩ h; have HP1A : Hid (∀ W, Below w5.heap.size w5 W → Pair b1 rb1 cs1 own1 S1 W) := Lib.hid fun W h => (HP1.out.on hb35).on h; have HB5 := Lib.hid (HB3.out.trans (hb35.mono HB3.out.size)); have HD5 := Lib.hid ((hb35.block _ (Array.getElem?_eq_some_iff.1 HD3.out).1).trans HD3.out); clear km9 hw5 hv hv2 hb2 ho hx hr hR hb35)
        | (refine wpList_store_mid (by rfl) 35 (.tmp 9) (.tmp 33) (by rfl) w4.heap.size 0 cs2.toArray (by rfl) (by rfl) HT2 HS2 HO2 ?_; rw [List.toList_toArray, ← HW5.out]))
      obtain ⟨b2, hb2⟩ : ∃ b, b = w4.heap.size := ⟨_, rfl⟩
      rw [← hb2] at HP2 ⊢
      clear HT2 HO2 HW5 hb2 HP1 HB3 HD3
      have HPS : Hid (∀ W, Below w5.heap.size w5 W → W.rangeAt w.heap.size 0 dc) := Lib.hid fun W h j v hj => by
        rw [Nat.zero_add, cells_at ((h.block _ (Array.getElem?_eq_some_iff.1 HD5.out).1).trans HD5.out)]
        exact hj
      have HAW : Hid (∀ W, Below w5.heap.size w5 W → Vs W w.heap.size A (n * 9) (ddV L)) := Lib.hid fun W h => Vs.below HL.out (HB5.out.trans (h.mono HB5.out.size))
      obtain ⟨i0, zz, hi0, hz0, hz1, hz2, hz3⟩ := dd_parts
      have HI0 := Lib.hid hi0
      have HZ0 := Lib.hid hz0
      have HZC := Lib.hid hz1
      have HSI := Lib.hid hz2
      have HBI := Lib.hid hz3
      have HZR := Lib.hid hz
      clear hi0 hz0 hz1 hz2 hz3
      have HB0 := Lib.hid (Below.refl w5.heap.size w5).drew
      have hP := HPS.out _ HB0.out
      -- region 7
      go_cut [11, 12] from 35 to 44 (fun sa sb wx => ∃ (b3 rb3 : Nat) (cs3 : List Value) (own3 : Nat → Prop), sa = .pointer (some ⟨b3, 0, none⟩) ∧ sb = .pointer (some ⟨rb3, 0, none⟩) ∧ Hid (Pair b3 rb3 cs3 own3 (Ix.made (L ++ [d])) wx ∧ Below w5.heap.size w5 wx))
      case first =>
        as_aux_lemma =>
          refine wp_region_noPanic ?_
          refine wp_region_held_drew (S := (fun W => W.rangeAt w.heap.size 0 dc)) (by kernel_rfl) hP (fun hHeld => ?_)
          generalize w5.drew = wc at *
          refine wpAnyH_take (i := 0) (v := ?_) (List.getElem?_toArray.trans rfl) (by kernel_rfl) (by kernel_rfl) (by kernel_rfl) (fun _ _ _ h => h) (Or.inl ⟨by rfl, ?_⟩) (by assumption) ?_
          case refine_2 => (intro w hSw; (try dsimp only at hSw); clear hSw; go_simp <;> with_reducible rfl)
          simp only [Act.put, List.setIfInBounds_toArray, List.set_cons_zero, List.set_cons_succ]
          refine wpAnyH_take (i := 2) (v := .agg dc.toArray) (List.getElem?_toArray.trans rfl) (by kernel_rfl) (by kernel_rfl) (by kernel_rfl) (fun _ _ _ h => h) ?_ (by assumption) ?_
          · exact yieldsIf_load_mid (by rfl) 52 _ (by rfl) w.heap.size 0 (by rfl) dc _ (fun _ h => h) Tryd.underlying52 (by rfl) HINF.out
          simp only [Act.put, List.setIfInBounds_toArray, List.set_cons_zero, List.set_cons_succ]
          refine wpAnyH_ready (rs := [1, 3, 9]) (by kernel_rfl) (by simp) ?_
          refine AllReadyH.cons (List.getElem?_toArray.trans rfl) (fun K hK => ?_) (AllReadyH.cons (List.getElem?_toArray.trans rfl) (fun K hK => ?_) (AllReadyH.cons (List.getElem?_toArray.trans rfl) (fun K hK => ?_) AllReadyH.nil))
          · refine step_append_rows (by rfl) _ _ _ (by rfl) w5.heap.size 52 i0 zz 9 80 Tryd.underlying22 HI0.out HZ0.out HSI.out HBI.out HZC.out (by omega) (.slice none 0 0) 0 [] (by rfl) (World.ownsRow_nil _ _ _ _) w.heap.size A n c (ddV L) (by rfl) (HAW.out _ HB0.out) (ddV_one L) n (Nat.zero_add n) (ddV L) (List.nil_append _) (by have := HN.out; omega) (by have := HN.out; omega) HB0.out.size ?_; intro A1 k1 wc ho1 hg1; have hbn := (Below.refl _ _).grown hg1 (Nat.le_refl _) (by simp [Value.ownBlock]); replace HB0 := Lib.hid (HB0.out.trans (hbn.mono HB0.out.size)); have hP := HPS.out _ HB0.out; (try replace HO1 := Lib.hid (own_belowN HO1.out hbn)); (try replace HVB := Lib.hid ((Vs.below HVB.out hbn).mono hbn.size)); (try replace HDV := Lib.hid (show Dv _ _ _ _ _ from (Vs.below HDV.out hbn).mono hbn.size)); (try replace HZB := Lib.hid (HZB.out.below hbn)); (try replace HR3 := Lib.hid (ixPrg.on HR3.out hbn)); (try replace HX3 := Lib.hid (HX3.out.below hbn)); have HO1 := Lib.hid ho1; clear hbn ho1 hg1
            refine hK.out _ _ hP (fun hHeld => ?_)
            clear hK K
            refine wpAnyH_ready (rs := [3, 9]) (by kernel_rfl) (by simp) ?_
            refine AllReadyH.cons (List.getElem?_toArray.trans rfl) (fun K hK => ?_) (AllReadyH.cons (List.getElem?_toArray.trans rfl) (fun K hK => ?_) AllReadyH.nil)
            · go_simp; rw [build_nine HDC0.out]; go_simp; have hbn := (Below.refl wc.heap.size wc).alloc (Nat.le_refl _) (.cells dc.toArray 52); have hvb := (Vs.new wc 52 (0, 0) dc.toArray).mono (B' := (wc.alloc (.cells dc.toArray 52)).heap.size) (by simp); replace HB0 := Lib.hid (HB0.out.trans (hbn.mono HB0.out.size)); have hP := HPS.out _ HB0.out; (try replace HO1 := Lib.hid (own_belowN HO1.out hbn)); (try replace HVB := Lib.hid ((Vs.below HVB.out hbn).mono hbn.size)); (try replace HDV := Lib.hid (show Dv _ _ _ _ _ from (Vs.below HDV.out hbn).mono hbn.size)); (try replace HZB := Lib.hid (HZB.out.below hbn)); (try replace HR3 := Lib.hid (ixPrg.on HR3.out hbn)); (try replace HX3 := Lib.hid (HX3.out.below hbn)); have HVB := Lib.hid hvb; clear hbn hvb; generalize wc.alloc (.cells dc.toArray 52) = wc at *
              refine hK.out _ _ hP (fun hHeld => ?_)
              clear hK K
              refine wpAnyH_ready (rs := [4, 9]) (by kernel_rfl) (by simp) ?_
              refine AllReadyH.cons (List.getElem?_toArray.trans rfl) (fun K hK => ?_) (AllReadyH.cons (List.getElem?_toArray.trans rfl) (fun K hK => ?_) AllReadyH.nil)
              · refine step_append_rows (by rfl) _ _ _ (by rfl) w5.heap.size 52 i0 zz 9 80 Tryd.underlying22 HI0.out HZ0.out HSI.out HBI.out HZC.out (by omega) (.slice A1 n k1) n (ddV L) (by rfl) HO1.out _ _ 1 1 dc (by rfl) (by rw [show 1 * 9 = dc.length from HCL.out.symm]; simpa using HVB.out) HONE.out (n + 1) rfl (ddV (L ++ [d])) (by rw [HDC.out, ← ddV_append]) (by have := HN.out; omega) (by have := HN.out; omega) HB0.out.size ?_; intro A2 k2 wc ho2 hg2; have hbo := HB0.out.grown hg2 HB0.out.size (fun q hq => (HO1.out.lt q hq).1); replace HB0 := Lib.hid hbo; have hP := HPS.out _ HB0.out; have HDV := Lib.hid (dv_of_own ho2); (try replace HZB := Lib.hid (zb_kept HZB.out hg2 HO1.out)); clear HO1 HVB hbo hg2 ho2
                refine hK.out _ _ hP (fun hHeld => ?_)
                clear hK K
                refine wpAnyH_ready (rs := [5, 9]) (by kernel_rfl) (by simp) ?_
                refine AllReadyH.cons (List.getElem?_toArray.trans rfl) (fun K hK => ?_) (AllReadyH.cons (List.getElem?_toArray.trans rfl) (fun K hK => ?_) AllReadyH.nil)
                · go_simp
                  go_at_call 6; (with_reducible refine (made_any ixPrg HZR.out (ixP_length _ _) A2 (n + 1) k2 (L ++ [d]) wc HDV.out (by have := HN.out; omega)).mono ?_); rintro e wc ⟨cs3, own3, rb3, rfl, hR3, ho3, hx3, hr3, hbn⟩; (try have HNE := Lib.hid (fun i hi => Nat.ne_of_gt (Nat.lt_of_lt_of_le HZB.out.lt (ho3 i hi).1))); (try have HNR : Hid (rb3 ≠ bz) := Lib.hid (Nat.ne_of_gt (Nat.lt_of_lt_of_le HZB.out.lt hr3))); replace HB0 := Lib.hid (HB0.out.trans (hbn.mono HB0.out.size)); have hP := HPS.out _ HB0.out; (try replace HO1 := Lib.hid (own_belowN HO1.out hbn)); (try replace HVB := Lib.hid ((Vs.below HVB.out hbn).mono hbn.size)); (try replace HDV := Lib.hid (show Dv _ _ _ _ _ from (Vs.below HDV.out hbn).mono hbn.size)); (try replace HZB := Lib.hid (HZB.out.below hbn)); (try replace HR3 := Lib.hid (ixPrg.on HR3.out hbn)); (try replace HX3 := Lib.hid (HX3.out.below hbn)); have HR3 := Lib.hid hR3; have HX3 := Lib.hid hx3; clear hbn hR3 ho3 hx3 hr3 HDV
                  refine hK.out _ _ hP (fun hHeld => ?_)
                  clear hK K
                  refine wpAnyH_take (i := 6) (v := ?_) (List.getElem?_toArray.trans rfl) (by kernel_rfl) (by kernel_rfl) (by kernel_rfl) (fun _ _ _ h => h) (Or.inl ⟨by rfl, ?_⟩) (by assumption) ?_
                  case refine_2 => (intro w hSw; (try dsimp only at hSw); clear hSw; go_simp <;> with_reducible rfl)
                  simp only [Act.put, List.setIfInBounds_toArray, List.set_cons_zero, List.set_cons_succ]
                  refine wpAnyH_take (i := 7) (v := ?_) (List.getElem?_toArray.trans rfl) (by kernel_rfl) (by kernel_rfl) (by kernel_rfl) (fun _ _ _ h => h) (Or.inl ⟨by rfl, ?_⟩) (by assumption) ?_
                  case refine_2 => (intro w hSw; (try dsimp only at hSw); clear hSw; go_simp <;> with_reducible rfl)
                  simp only [Act.put, List.setIfInBounds_toArray, List.set_cons_zero, List.set_cons_succ]
                  refine wpAnyH_take (i := 8) (v := ?_) (List.getElem?_toArray.trans rfl) (by kernel_rfl) (by kernel_rfl) (by kernel_rfl) (fun _ _ _ h => h) (Or.inl ⟨by rfl, ?_⟩) (by assumption) ?_
                  case refine_2 => (intro w hSw; (try dsimp only at hSw); clear hSw; go_simp <;> with_reducible rfl)
                  simp only [Act.put, List.setIfInBounds_toArray, List.set_cons_zero, List.set_cons_succ]
                  refine wpAnyH_ready (rs := [9]) (by kernel_rfl) (by simp) ?_
                  refine AllReadyH.cons (List.getElem?_toArray.trans rfl) (fun K hK => ?_) AllReadyH.nil
                  go_simp; obtain ⟨bz, hbz⟩ : ∃ bz, bz = wc.heap.size := ⟨_, rfl⟩; rw [← hbz]; have hbn := (Below.refl wc.heap.size wc).alloc (Nat.le_refl _) (.cells zP.toArray 35); have hzb : IxBox (wc.alloc (.cells zP.toArray 35)) bz zP := (by rw [hbz]; exact IxBox.new wc zP); (try have HNE : Hid (∀ i, own3 i → i ≠ bz) := Lib.hid fun i hi => Nat.ne_of_lt (by rw [hbz]; exact ixPrg.lt HR3.out hi)); (try have HNR : Hid (rb3 ≠ bz) := Lib.hid (Nat.ne_of_lt (by rw [hbz]; exact HX3.out.lt))); have HBZ := Lib.hid (show w5.heap.size ≤ bz by rw [hbz]; exact HB0.out.size); replace HB0 := Lib.hid (HB0.out.trans (hbn.mono HB0.out.size)); have hP := HPS.out _ HB0.out; (try replace HO1 := Lib.hid (own_belowN HO1.out hbn)); (try replace HVB := Lib.hid ((Vs.below HVB.out hbn).mono hbn.size)); (try replace HDV := Lib.hid (show Dv _ _ _ _ _ from (Vs.below HDV.out hbn).mono hbn.size)); (try replace HZB := Lib.hid (HZB.out.below hbn)); (try replace HR3 := Lib.hid (ixPrg.on HR3.out hbn)); (try replace HX3 := Lib.hid (HX3.out.below hbn)); have HZB := Lib.hid hzb; clear hbn hzb hbz; generalize wc.alloc (.cells zP.toArray 35) = wc at *
                  refine hK.out _ _ hP (fun hHeld => ?_)
                  clear hK K
                  refine wpAnyH_ready (rs := [10]) (by kernel_rfl) (by simp) ?_
                  refine AllReadyH.cons (List.getElem?_toArray.trans rfl) (fun K hK => ?_) AllReadyH.nil
                  rw [if_pos (by rfl)]; refine wp_store_mid 35 (.tmp 11) (.tmp 42) (by rfl) _ 0 cs3.toArray (by rfl) (by rfl) (HZB.out.there (by rw [ixP_length]; simpa using (ixPrg.len HR3.out).symm)) (by rw [show cs3.toArray.size = 176 by simpa using ixPrg.len HR3.out]; exact ixPrg.size) (all_oneCell_toArray (ixPrg.one HR3.out)) ?_; rw [List.toList_toArray]; have HEND := Lib.hid (pair_put HZB.out HR3.out HNE.out HX3.out HNR.out HB0.out HBZ.out); have hP := HPS.out _ HEND.out.2; generalize wc.setCells bz 0 cs3 = wc at *
                  refine hK.out _ _ hP (fun hHeld => ?_)
                  clear hK K
                  refine wpAnyH_take (i := 11) (v := ?_) (List.getElem?_toArray.trans rfl) (by kernel_rfl) (by kernel_rfl) (by kernel_rfl) (fun _ _ _ h => h) (Or.inl ⟨by rfl, ?_⟩) (by assumption) ?_
                  case refine_2 => (intro w hSw; (try dsimp only at hSw); clear hSw; go_simp <;> with_reducible rfl)
                  simp only [Act.put, List.setIfInBounds_toArray, List.set_cons_zero, List.set_cons_succ]
                  refine wpAnyH_done (by kernel_rfl) ?_ _
                  refine NoPanic.normal ?_
                  go_wp2_with fail
                  go_meet
                  exact ⟨bz, rb3, cs3, own3, rfl, rfl, HEND⟩
                · go_simp; obtain ⟨bz, hbz⟩ : ∃ bz, bz = wc.heap.size := ⟨_, rfl⟩; rw [← hbz]; have hbn := (Below.refl wc.heap.size wc).alloc (Nat.le_refl _) (.cells zP.toArray 35); have hzb : IxBox (wc.alloc (.cells zP.toArray 35)) bz zP := (by rw [hbz]; exact IxBox.new wc zP); (try have HNE : Hid (∀ i, own3 i → i ≠ bz) := Lib.hid fun i hi => Nat.ne_of_lt (by rw [hbz]; exact ixPrg.lt HR3.out hi)); (try have HNR : Hid (rb3 ≠ bz) := Lib.hid (Nat.ne_of_lt (by rw [hbz]; exact HX3.out.lt))); have HBZ := Lib.hid (show w5.heap.size ≤ bz by rw [hbz]; exact HB0.out.size); replace HB0 := Lib.hid (HB0.out.trans (hbn.mono HB0.out.size)); have hP := HPS.out _ HB0.out; (try replace HO1 := Lib.hid (own_belowN HO1.out hbn)); (try replace HVB := Lib.hid ((Vs.below HVB.out hbn).mono hbn.size)); (try replace HDV := Lib.hid (show Dv _ _ _ _ _ from (Vs.below HDV.out hbn).mono hbn.size)); (try replace HZB := Lib.hid (HZB.out.below hbn)); (try replace HR3 := Lib.hid (ixPrg.on HR3.out hbn)); (try replace HX3 := Lib.hid (HX3.out.below hbn)); have HZB := Lib.hid hzb; clear hbn hzb hbz; generalize wc.alloc (.cells zP.toArray 35) = wc at *
                  refine hK.out _ _ hP (fun hHeld => ?_)
                  clear hK K
                  refine wpAnyH_ready (rs := [5]) (by kernel_rfl) (by simp) ?_
                  refine AllReadyH.cons (List.getElem?_toArray.trans rfl) (fun K hK => ?_) AllReadyH.nil
                  go_simp
                  go_at_call 6; (with_reducible refine (made_any ixPrg HZR.out (ixP_length _ _) A2 (n + 1) k2 (L ++ [d]) wc HDV.out (by have := HN.out; omega)).mono ?_); rintro e wc ⟨cs3, own3, rb3, rfl, hR3, ho3, hx3, hr3, hbn⟩; (try have HNE := Lib.hid (fun i hi => Nat.ne_of_gt (Nat.lt_of_lt_of_le HZB.out.lt (ho3 i hi).1))); (try have HNR : Hid (rb3 ≠ bz) := Lib.hid (Nat.ne_of_gt (Nat.lt_of_lt_of_le HZB.out.lt hr3))); replace HB0 := Lib.hid (HB0.out.trans (hbn.mono HB0.out.size)); have hP := HPS.out _ HB0.out; (try replace HO1 := Lib.hid (own_belowN HO1.out hbn)); (try replace HVB := Lib.hid ((Vs.below HVB.out hbn).mono hbn.size)); (try replace HDV := Lib.hid (show Dv _ _ _ _ _ from (Vs.below HDV.out hbn).mono hbn.size)); (try replace HZB := Lib.hid (HZB.out.below hbn)); (try replace HR3 := Lib.hid (ixPrg.on HR3.out hbn)); (try replace HX3 := Lib.hid (HX3.out.below hbn)); have HR3 := Lib.hid hR3; have HX3 := Lib.hid hx3; clear hbn hR3 ho3 hx3 hr3 HDV
                  refine hK.out _ _ hP (fun hHeld => ?_)
                  clear hK K
                  refine wpAnyH_take (i := 6) (v := ?_) (List.getElem?_toArray.trans rfl) (by kernel_rfl) (by kernel_rfl) (by kernel_rfl) (fun _ _ _ h => h) (Or.inl ⟨by rfl, ?_⟩) (by assumption) ?_
                  case refine_2 => (intro w hSw; (try dsimp only at hSw); clear hSw; go_simp <;> with_reducible rfl)
                  simp only [Act.put, List.setIfInBounds_toArray, List.set_cons_zero, List.set_cons_succ]
                  refine wpAnyH_take (i := 7) (v := ?_) (List.getElem?_toArray.trans rfl) (by kernel_rfl) (by kernel_rfl) (by kernel_rfl) (fun _ _ _ h => h) (Or.inl ⟨by rfl, ?_⟩) (by assumption) ?_
                  case refine_2 => (intro w hSw; (try dsimp only at hSw); clear hSw; go_simp <;> with_reducible rfl)
                  simp only [Act.put, List.setIfInBounds_toArray, List.set_cons_zero, List.set_cons_succ]
                  refine wpAnyH_take (i := 8) (v := ?_) (List.getElem?_toArray.trans rfl) (by kernel_rfl) (by kernel_rfl) (by kernel_rfl) (fun _ _ _ h => h) (Or.inl ⟨by rfl, ?_⟩) (by assumption) ?_
                  case refine_2 => (intro w hSw; (try dsimp only at hSw); clear hSw; go_simp <;> with_reducible rfl)
                  simp only [Act.put, List.setIfInBounds_toArray, List.set_cons_zero, List.set_cons_succ]
                  refine wpAnyH_ready (rs := [10]) (by kernel_rfl) (by simp) ?_
                  refine AllReadyH.cons (List.getElem?_toArray.trans rfl) (fun K hK => ?_) AllReadyH.nil
                  rw [if_pos (by rfl)]; refine wp_store_mid 35 (.tmp 11) (.tmp 42) (by rfl) _ 0 cs3.toArray (by rfl) (by rfl) (HZB.out.there (by rw [ixP_length]; simpa using (ixPrg.len HR3.out).symm)) (by rw [show cs3.toArray.size = 176 by simpa using ixPrg.len HR3.out]; exact ixPrg.size) (all_oneCell_toArray (ixPrg.one HR3.out)) ?_; rw [List.toList_toArray]; have HEND := Lib.hid (pair_put HZB.out HR3.out HNE.out HX3.out HNR.out HB0.out HBZ.out); have hP := HPS.out _ HEND.out.2; generalize wc.setCells bz 0 cs3 = wc at *
                  refine hK.out _ _ hP (fun hHeld => ?_)
                  clear hK K
                  refine wpAnyH_take (i := 11) (v := ?_) (List.getElem?_toArray.trans rfl) (by kernel_rfl) (by kernel_rfl) (by kernel_rfl) (fun _ _ _ h => h) (Or.inl ⟨by rfl, ?_⟩) (by assumption) ?_
                  case refine_2 => (intro w hSw; (try dsimp only at hSw); clear hSw; go_simp <;> with_reducible rfl)
                  simp only [Act.put, List.setIfInBounds_toArray, List.set_cons_zero, List.set_cons_succ]
                  refine wpAnyH_done (by kernel_rfl) ?_ _
                  refine NoPanic.normal ?_
                  go_wp2_with fail
                  go_meet
                  exact ⟨bz, rb3, cs3, own3, rfl, rfl, HEND⟩
              · go_simp; obtain ⟨bz, hbz⟩ : ∃ bz, bz = wc.heap.size := ⟨_, rfl⟩; rw [← hbz]; have hbn := (Below.refl wc.heap.size wc).alloc (Nat.le_refl _) (.cells zP.toArray 35); have hzb : IxBox (wc.alloc (.cells zP.toArray 35)) bz zP := (by rw [hbz]; exact IxBox.new wc zP); (try have HNE : Hid (∀ i, own3 i → i ≠ bz) := Lib.hid fun i hi => Nat.ne_of_lt (by rw [hbz]; exact ixPrg.lt HR3.out hi)); (try have HNR : Hid (rb3 ≠ bz) := Lib.hid (Nat.ne_of_lt (by rw [hbz]; exact HX3.out.lt))); have HBZ := Lib.hid (show w5.heap.size ≤ bz by rw [hbz]; exact HB0.out.size); replace HB0 := Lib.hid (HB0.out.trans (hbn.mono HB0.out.size)); have hP := HPS.out _ HB0.out; (try replace HO1 := Lib.hid (own_belowN HO1.out hbn)); (try replace HVB := Lib.hid ((Vs.below HVB.out hbn).mono hbn.size)); (try replace HDV := Lib.hid (show Dv _ _ _ _ _ from (Vs.below HDV.out hbn).mono hbn.size)); (try replace HZB := Lib.hid (HZB.out.below hbn)); (try replace HR3 := Lib.hid (ixPrg.on HR3.out hbn)); (try replace HX3 := Lib.hid (HX3.out.below hbn)); have HZB := Lib.hid hzb; clear hbn hzb hbz; generalize wc.alloc (.cells zP.toArray 35) = wc at *
                refine hK.out _ _ hP (fun hHeld => ?_)
                clear hK K
                refine wpAnyH_ready (rs := [4]) (by kernel_rfl) (by simp) ?_
                refine AllReadyH.cons (List.getElem?_toArray.trans rfl) (fun K hK => ?_) AllReadyH.nil
                refine step_append_rows (by rfl) _ _ _ (by rfl) w5.heap.size 52 i0 zz 9 80 Tryd.underlying22 HI0.out HZ0.out HSI.out HBI.out HZC.out (by omega) (.slice A1 n k1) n (ddV L) (by rfl) HO1.out _ _ 1 1 dc (by rfl) (by rw [show 1 * 9 = dc.length from HCL.out.symm]; simpa using HVB.out) HONE.out (n + 1) rfl (ddV (L ++ [d])) (by rw [HDC.out, ← ddV_append]) (by have := HN.out; omega) (by have := HN.out; omega) HB0.out.size ?_; intro A2 k2 wc ho2 hg2; have hbo := HB0.out.grown hg2 HB0.out.size (fun q hq => (HO1.out.lt q hq).1); replace HB0 := Lib.hid hbo; have hP := HPS.out _ HB0.out; have HDV := Lib.hid (dv_of_own ho2); (try replace HZB := Lib.hid (zb_kept HZB.out hg2 HO1.out)); clear HO1 HVB hbo hg2 ho2
                refine hK.out _ _ hP (fun hHeld => ?_)
                clear hK K
                refine wpAnyH_ready (rs := [5]) (by kernel_rfl) (by simp) ?_
                refine AllReadyH.cons (List.getElem?_toArray.trans rfl) (fun K hK => ?_) AllReadyH.nil
                go_simp
                go_at_call 6; (with_reducible refine (made_any ixPrg HZR.out (ixP_length _ _) A2 (n + 1) k2 (L ++ [d]) wc HDV.out (by have := HN.out; omega)).mono ?_); rintro e wc ⟨cs3, own3, rb3, rfl, hR3, ho3, hx3, hr3, hbn⟩; (try have HNE := Lib.hid (fun i hi => Nat.ne_of_gt (Nat.lt_of_lt_of_le HZB.out.lt (ho3 i hi).1))); (try have HNR : Hid (rb3 ≠ bz) := Lib.hid (Nat.ne_of_gt (Nat.lt_of_lt_of_le HZB.out.lt hr3))); replace HB0 := Lib.hid (HB0.out.trans (hbn.mono HB0.out.size)); have hP := HPS.out _ HB0.out; (try replace HO1 := Lib.hid (own_belowN HO1.out hbn)); (try replace HVB := Lib.hid ((Vs.below HVB.out hbn).mono hbn.size)); (try replace HDV := Lib.hid (show Dv _ _ _ _ _ from (Vs.below HDV.out hbn).mono hbn.size)); (try replace HZB := Lib.hid (HZB.out.below hbn)); (try replace HR3 := Lib.hid (ixPrg.on HR3.out hbn)); (try replace HX3 := Lib.hid (HX3.out.below hbn)); have HR3 := Lib.hid hR3; have HX3 := Lib.hid hx3; clear hbn hR3 ho3 hx3 hr3 HDV
                refine hK.out _ _ hP (fun hHeld => ?_)
                clear hK K
                refine wpAnyH_take (i := 6) (v := ?_) (List.getElem?_toArray.trans rfl) (by kernel_rfl) (by kernel_rfl) (by kernel_rfl) (fun _ _ _ h => h) (Or.inl ⟨by rfl, ?_⟩) (by assumption) ?_
                case refine_2 => (intro w hSw; (try dsimp only at hSw); clear hSw; go_simp <;> with_reducible rfl)
                simp only [Act.put, List.setIfInBounds_toArray, List.set_cons_zero, List.set_cons_succ]
                refine wpAnyH_take (i := 7) (v := ?_) (List.getElem?_toArray.trans rfl) (by kernel_rfl) (by kernel_rfl) (by kernel_rfl) (fun _ _ _ h => h) (Or.inl ⟨by rfl, ?_⟩) (by assumption) ?_
                case refine_2 => (intro w hSw; (try dsimp only at hSw); clear hSw; go_simp <;> with_reducible rfl)
                simp only [Act.put, List.setIfInBounds_toArray, List.set_cons_zero, List.set_cons_succ]
                refine wpAnyH_take (i := 8) (v := ?_) (List.getElem?_toArray.trans rfl) (by kernel_rfl) (by kernel_rfl) (by kernel_rfl) (fun _ _ _ h => h) (Or.inl ⟨by rfl, ?_⟩) (by assumption) ?_
                case refine_2 => (intro w hSw; (try dsimp only at hSw); clear hSw; go_simp <;> with_reducible rfl)
                simp only [Act.put, List.setIfInBounds_toArray, List.set_cons_zero, List.set_cons_succ]
                refine wpAnyH_ready (rs := [10]) (by kernel_rfl) (by simp) ?_
                refine AllReadyH.cons (List.getElem?_toArray.trans rfl) (fun K hK => ?_) AllReadyH.nil
                rw [if_pos (by rfl)]; refine wp_store_mid 35 (.tmp 11) (.tmp 42) (by rfl) _ 0 cs3.toArray (by rfl) (by rfl) (HZB.out.there (by rw [ixP_length]; simpa using (ixPrg.len HR3.out).symm)) (by rw [show cs3.toArray.size = 176 by simpa using ixPrg.len HR3.out]; exact ixPrg.size) (all_oneCell_toArray (ixPrg.one HR3.out)) ?_; rw [List.toList_toArray]; have HEND := Lib.hid (pair_put HZB.out HR3.out HNE.out HX3.out HNR.out HB0.out HBZ.out); have hP := HPS.out _ HEND.out.2; generalize wc.setCells bz 0 cs3 = wc at *
                refine hK.out _ _ hP (fun hHeld => ?_)
                clear hK K
                refine wpAnyH_take (i := 11) (v := ?_) (List.getElem?_toArray.trans rfl) (by kernel_rfl) (by kernel_rfl) (by kernel_rfl) (fun _ _ _ h => h) (Or.inl ⟨by rfl, ?_⟩) (by assumption) ?_
                case refine_2 => (intro w hSw; (try dsimp only at hSw); clear hSw; go_simp <;> with_reducible rfl)
                simp only [Act.put, List.setIfInBounds_toArray, List.set_cons_zero, List.set_cons_succ]
                refine wpAnyH_done (by kernel_rfl) ?_ _
                refine NoPanic.normal ?_
                go_wp2_with fail
                go_meet
                exact ⟨bz, rb3, cs3, own3, rfl, rfl, HEND⟩
            · go_simp; obtain ⟨bz, hbz⟩ : ∃ bz, bz = wc.heap.size := ⟨_, rfl⟩; rw [← hbz]; have hbn := (Below.refl wc.heap.size wc).alloc (Nat.le_refl _) (.cells zP.toArray 35); have hzb : IxBox (wc.alloc (.cells zP.toArray 35)) bz zP := (by rw [hbz]; exact IxBox.new wc zP); (try have HNE : Hid (∀ i, own3 i → i ≠ bz) := Lib.hid fun i hi => Nat.ne_of_lt (by rw [hbz]; exact ixPrg.lt HR3.out hi)); (try have HNR : Hid (rb3 ≠ bz) := Lib.hid (Nat.ne_of_lt (by rw [hbz]; exact HX3.out.lt))); have HBZ := Lib.hid (show w5.heap.size ≤ bz by rw [hbz]; exact HB0.out.size); replace HB0 := Lib.hid (HB0.out.trans (hbn.mono HB0.out.size)); have hP := HPS.out _ HB0.out; (try replace HO1 := Lib.hid (own_belowN HO1.out hbn)); (try replace HVB := Lib.hid ((Vs.below HVB.out hbn).mono hbn.size)); (try replace HDV := Lib.hid (show Dv _ _ _ _ _ from (Vs.below HDV.out hbn).mono hbn.size)); (try replace HZB := Lib.hid (HZB.out.below hbn)); (try replace HR3 := Lib.hid (ixPrg.on HR3.out hbn)); (try replace HX3 := Lib.hid (HX3.out.below hbn)); have HZB := Lib.hid hzb; clear hbn hzb hbz; generalize wc.alloc (.cells zP.toArray 35) = wc at *
              refine hK.out _ _ hP (fun hHeld => ?_)
              clear hK K
              refine wpAnyH_ready (rs := [3]) (by kernel_rfl) (by simp) ?_
              refine AllReadyH.cons (List.getElem?_toArray.trans rfl) (fun K hK => ?_) AllReadyH.nil
              go_simp; rw [build_nine HDC0.out]; go_simp; have hbn := (Below.refl wc.heap.size wc).alloc (Nat.le_refl _) (.cells dc.toArray 52); have hvb := (Vs.new wc 52 (0, 0) dc.toArray).mono (B' := (wc.alloc (.cells dc.toArray 52)).heap.size) (by simp); replace HB0 := Lib.hid (HB0.out.trans (hbn.mono HB0.out.size)); have hP := HPS.out _ HB0.out; (try replace HO1 := Lib.hid (own_belowN HO1.out hbn)); (try replace HVB := Lib.hid ((Vs.below HVB.out hbn).mono hbn.size)); (try replace HDV := Lib.hid (show Dv _ _ _ _ _ from (Vs.below HDV.out hbn).mono hbn.size)); (try replace HZB := Lib.hid (HZB.out.below hbn)); (try replace HR3 := Lib.hid (ixPrg.on HR3.out hbn)); (try replace HX3 := Lib.hid (HX3.out.below hbn)); have HVB := Lib.hid hvb; clear hbn hvb; generalize wc.alloc (.cells dc.toArray 52) = wc at *
              refine hK.out _ _ hP (fun hHeld => ?_)
              clear hK K
              refine wpAnyH_ready (rs := [4]) (by kernel_rfl) (by simp) ?_
              refine AllReadyH.cons (List.getElem?_toArray.trans rfl) (fun K hK => ?_) AllReadyH.nil
              refine step_append_rows (by rfl) _ _ _ (by rfl) w5.heap.size 52 i0 zz 9 80 Tryd.underlying22 HI0.out HZ0.out HSI.out HBI.out HZC.out (by omega) (.slice A1 n k1) n (ddV L) (by rfl) HO1.out _ _ 1 1 dc (by rfl) (by rw [show 1 * 9 = dc.length from HCL.out.symm]; simpa using HVB.out) HONE.out (n + 1) rfl (ddV (L ++ [d])) (by rw [HDC.out, ← ddV_append]) (by have := HN.out; omega) (by have := HN.out; omega) HB0.out.size ?_; intro A2 k2 wc ho2 hg2; have hbo := HB0.out.grown hg2 HB0.out.size (fun q hq => (HO1.out.lt q hq).1); replace HB0 := Lib.hid hbo; have hP := HPS.out _ HB0.out; have HDV := Lib.hid (dv_of_own ho2); (try replace HZB := Lib.hid (zb_kept HZB.out hg2 HO1.out)); clear HO1 HVB hbo hg2 ho2
              refine hK.out _ _ hP (fun hHeld => ?_)
              clear hK K
              refine wpAnyH_ready (rs := [5]) (by kernel_rfl) (by simp) ?_
              refine AllReadyH.cons (List.getElem?_toArray.trans rfl) (fun K hK => ?_) AllReadyH.nil
              go_simp
              go_at_call 6; (with_reducible refine (made_any ixPrg HZR.out (ixP_length _ _) A2 (n + 1) k2 (L ++ [d]) wc HDV.out (by have := HN.out; omega)).mono ?_); rintro e wc ⟨cs3, own3, rb3, rfl, hR3, ho3, hx3, hr3, hbn⟩; (try have HNE := Lib.hid (fun i hi => Nat.ne_of_gt (Nat.lt_of_lt_of_le HZB.out.lt (ho3 i hi).1))); (try have HNR : Hid (rb3 ≠ bz) := Lib.hid (Nat.ne_of_gt (Nat.lt_of_lt_of_le HZB.out.lt hr3))); replace HB0 := Lib.hid (HB0.out.trans (hbn.mono HB0.out.size)); have hP := HPS.out _ HB0.out; (try replace HO1 := Lib.hid (own_belowN HO1.out hbn)); (try replace HVB := Lib.hid ((Vs.below HVB.out hbn).mono hbn.size)); (try replace HDV := Lib.hid (show Dv _ _ _ _ _ from (Vs.below HDV.out hbn).mono hbn.size)); (try replace HZB := Lib.hid (HZB.out.below hbn)); (try replace HR3 := Lib.hid (ixPrg.on HR3.out hbn)); (try replace HX3 := Lib.hid (HX3.out.below hbn)); have HR3 := Lib.hid hR3; have HX3 := Lib.hid hx3; clear hbn hR3 ho3 hx3 hr3 HDV
              refine hK.out _ _ hP (fun hHeld => ?_)
              clear hK K
              refine wpAnyH_take (i := 6) (v := ?_) (List.getElem?_toArray.trans rfl) (by kernel_rfl) (by kernel_rfl) (by kernel_rfl) (fun _ _ _ h => h) (Or.inl ⟨by rfl, ?_⟩) (by assumption) ?_
              case refine_2 => (intro w hSw; (try dsimp only at hSw); clear hSw; go_simp <;> with_reducible rfl)
              simp only [Act.put, List.setIfInBounds_toArray, List.set_cons_zero, List.set_cons_succ]
              refine wpAnyH_take (i := 7) (v := ?_) (List.getElem?_toArray.trans rfl) (by kernel_rfl) (by kernel_rfl) (by kernel_rfl) (fun _ _ _ h => h) (Or.inl ⟨by rfl, ?_⟩) (by assumption) ?_
              case refine_2 => (intro w hSw; (try dsimp only at hSw); clear hSw; go_simp <;> with_reducible rfl)
              simp only [Act.put, List.setIfInBounds_toArray, List.set_cons_zero, List.set_cons_succ]
              refine wpAnyH_take (i := 8) (v := ?_) (List.getElem?_toArray.trans rfl) (by kernel_rfl) (by kernel_rfl) (by kernel_rfl) (fun _ _ _ h => h) (Or.inl ⟨by rfl, ?_⟩) (by assumption) ?_
              case refine_2 => (intro w hSw; (try dsimp only at hSw); clear hSw; go_simp <;> with_reducible rfl)
              simp only [Act.put, List.setIfInBounds_toArray, List.set_cons_zero, List.set_cons_succ]
              refine wpAnyH_ready (rs := [10]) (by kernel_rfl) (by simp) ?_
              refine AllReadyH.cons (List.getElem?_toArray.trans rfl) (fun K hK => ?_) AllReadyH.nil
              rw [if_pos (by rfl)]; refine wp_store_mid 35 (.tmp 11) (.tmp 42) (by rfl) _ 0 cs3.toArray (by rfl) (by rfl) (HZB.out.there (by rw [ixP_length]; simpa using (ixPrg.len HR3.out).symm)) (by rw [show cs3.toArray.size = 176 by simpa using ixPrg.len HR3.out]; exact ixPrg.size) (all_oneCell_toArray (ixPrg.one HR3.out)) ?_; rw [List.toList_toArray]; have HEND := Lib.hid (pair_put HZB.out HR3.out HNE.out HX3.out HNR.out HB0.out HBZ.out); have hP := HPS.out _ HEND.out.2; generalize wc.setCells bz 0 cs3 = wc at *
              refine hK.out _ _ hP (fun hHeld => ?_)
              clear hK K
              refine wpAnyH_take (i := 11) (v := ?_) (List.getElem?_toArray.trans rfl) (by kernel_rfl) (by kernel_rfl) (by kernel_rfl) (fun _ _ _ h => h) (Or.inl ⟨by rfl, ?_⟩) (by assumption) ?_
              case refine_2 => (intro w hSw; (try dsimp only at hSw); clear hSw; go_simp <;> with_reducible rfl)
              simp only [Act.put, List.setIfInBounds_toArray, List.set_cons_zero, List.set_cons_succ]
              refine wpAnyH_done (by kernel_rfl) ?_ _
              refine NoPanic.normal ?_
              go_wp2_with fail
              go_meet
              exact ⟨bz, rb3, cs3, own3, rfl, rfl, HEND⟩
          · go_simp; rw [build_nine HDC0.out]; go_simp; have hbn := (Below.refl wc.heap.size wc).alloc (Nat.le_refl _) (.cells dc.toArray 52); have hvb := (Vs.new wc 52 (0, 0) dc.toArray).mono (B' := (wc.alloc (.cells dc.toArray 52)).heap.size) (by simp); replace HB0 := Lib.hid (HB0.out.trans (hbn.mono HB0.out.size)); have hP := HPS.out _ HB0.out; (try replace HO1 := Lib.hid (own_belowN HO1.out hbn)); (try replace HVB := Lib.hid ((Vs.below HVB.out hbn).mono hbn.size)); (try replace HDV := Lib.hid (show Dv _ _ _ _ _ from (Vs.below HDV.out hbn).mono hbn.size)); (try replace HZB := Lib.hid (HZB.out.below hbn)); (try replace HR3 := Lib.hid (ixPrg.on HR3.out hbn)); (try replace HX3 := Lib.hid (HX3.out.below hbn)); have HVB := Lib.hid hvb; clear hbn hvb; generalize wc.alloc (.cells dc.toArray 52) = wc at *
            refine hK.out _ _ hP (fun hHeld => ?_)
            clear hK K
            refine wpAnyH_ready (rs := [1, 9]) (by kernel_rfl) (by simp) ?_
            refine AllReadyH.cons (List.getElem?_toArray.trans rfl) (fun K hK => ?_) (AllReadyH.cons (List.getElem?_toArray.trans rfl) (fun K hK => ?_) AllReadyH.nil)
            · refine step_append_rows (by rfl) _ _ _ (by rfl) w5.heap.size 52 i0 zz 9 80 Tryd.underlying22 HI0.out HZ0.out HSI.out HBI.out HZC.out (by omega) (.slice none 0 0) 0 [] (by rfl) (World.ownsRow_nil _ _ _ _) w.heap.size A n c (ddV L) (by rfl) (HAW.out _ HB0.out) (ddV_one L) n (Nat.zero_add n) (ddV L) (List.nil_append _) (by have := HN.out; omega) (by have := HN.out; omega) HB0.out.size ?_; intro A1 k1 wc ho1 hg1; have hbn := (Below.refl _ _).grown hg1 (Nat.le_refl _) (by simp [Value.ownBlock]); replace HB0 := Lib.hid (HB0.out.trans (hbn.mono HB0.out.size)); have hP := HPS.out _ HB0.out; (try replace HO1 := Lib.hid (own_belowN HO1.out hbn)); (try replace HVB := Lib.hid ((Vs.below HVB.out hbn).mono hbn.size)); (try replace HDV := Lib.hid (show Dv _ _ _ _ _ from (Vs.below HDV.out hbn).mono hbn.size)); (try replace HZB := Lib.hid (HZB.out.below hbn)); (try replace HR3 := Lib.hid (ixPrg.on HR3.out hbn)); (try replace HX3 := Lib.hid (HX3.out.below hbn)); have HO1 := Lib.hid ho1; clear hbn ho1 hg1
              refine hK.out _ _ hP (fun hHeld => ?_)
              clear hK K
              refine wpAnyH_ready (rs := [4, 9]) (by kernel_rfl) (by simp) ?_
              refine AllReadyH.cons (List.getElem?_toArray.trans rfl) (fun K hK => ?_) (AllReadyH.cons (List.getElem?_toArray.trans rfl) (fun K hK => ?_) AllReadyH.nil)
              · refine step_append_rows (by rfl) _ _ _ (by rfl) w5.heap.size 52 i0 zz 9 80 Tryd.underlying22 HI0.out HZ0.out HSI.out HBI.out HZC.out (by omega) (.slice A1 n k1) n (ddV L) (by rfl) HO1.out _ _ 1 1 dc (by rfl) (by rw [show 1 * 9 = dc.length from HCL.out.symm]; simpa using HVB.out) HONE.out (n + 1) rfl (ddV (L ++ [d])) (by rw [HDC.out, ← ddV_append]) (by have := HN.out; omega) (by have := HN.out; omega) HB0.out.size ?_; intro A2 k2 wc ho2 hg2; have hbo := HB0.out.grown hg2 HB0.out.size (fun q hq => (HO1.out.lt q hq).1); replace HB0 := Lib.hid hbo; have hP := HPS.out _ HB0.out; have HDV := Lib.hid (dv_of_own ho2); (try replace HZB := Lib.hid (zb_kept HZB.out hg2 HO1.out)); clear HO1 HVB hbo hg2 ho2
                refine hK.out _ _ hP (fun hHeld => ?_)
                clear hK K
                refine wpAnyH_ready (rs := [5, 9]) (by kernel_rfl) (by simp) ?_
                refine AllReadyH.cons (List.getElem?_toArray.trans rfl) (fun K hK => ?_) (AllReadyH.cons (List.getElem?_toArray.trans rfl) (fun K hK => ?_) AllReadyH.nil)
                · go_simp
                  go_at_call 6; (with_reducible refine (made_any ixPrg HZR.out (ixP_length _ _) A2 (n + 1) k2 (L ++ [d]) wc HDV.out (by have := HN.out; omega)).mono ?_); rintro e wc ⟨cs3, own3, rb3, rfl, hR3, ho3, hx3, hr3, hbn⟩; (try have HNE := Lib.hid (fun i hi => Nat.ne_of_gt (Nat.lt_of_lt_of_le HZB.out.lt (ho3 i hi).1))); (try have HNR : Hid (rb3 ≠ bz) := Lib.hid (Nat.ne_of_gt (Nat.lt_of_lt_of_le HZB.out.lt hr3))); replace HB0 := Lib.hid (HB0.out.trans (hbn.mono HB0.out.size)); have hP := HPS.out _ HB0.out; (try replace HO1 := Lib.hid (own_belowN HO1.out hbn)); (try replace HVB := Lib.hid ((Vs.below HVB.out hbn).mono hbn.size)); (try replace HDV := Lib.hid (show Dv _ _ _ _ _ from (Vs.below HDV.out hbn).mono hbn.size)); (try replace HZB := Lib.hid (HZB.out.below hbn)); (try replace HR3 := Lib.hid (ixPrg.on HR3.out hbn)); (try replace HX3 := Lib.hid (HX3.out.below hbn)); have HR3 := Lib.hid hR3; have HX3 := Lib.hid hx3; clear hbn hR3 ho3 hx3 hr3 HDV
                  refine hK.out _ _ hP (fun hHeld => ?_)
                  clear hK K
                  refine wpAnyH_take (i := 6) (v := ?_) (List.getElem?_toArray.trans rfl) (by kernel_rfl) (by kernel_rfl) (by kernel_rfl) (fun _ _ _ h => h) (Or.inl ⟨by rfl, ?_⟩) (by assumption) ?_
                  case refine_2 => (intro w hSw; (try dsimp only at hSw); clear hSw; go_simp <;> with_reducible rfl)
                  simp only [Act.put, List.setIfInBounds_toArray, List.set_cons_zero, List.set_cons_succ]
                  refine wpAnyH_take (i := 7) (v := ?_) (List.getElem?_toArray.trans rfl) (by kernel_rfl) (by kernel_rfl) (by kernel_rfl) (fun _ _ _ h => h) (Or.inl ⟨by rfl, ?_⟩) (by assumption) ?_
                  case refine_2 => (intro w hSw; (try dsimp only at hSw); clear hSw; go_simp <;> with_reducible rfl)
                  simp only [Act.put, List.setIfInBounds_toArray, List.set_cons_zero, List.set_cons_succ]
                  refine wpAnyH_take (i := 8) (v := ?_) (List.getElem?_toArray.trans rfl) (by kernel_rfl) (by kernel_rfl) (by kernel_rfl) (fun _ _ _ h => h) (Or.inl ⟨by rfl, ?_⟩) (by assumption) ?_
                  case refine_2 => (intro w hSw; (try dsimp only at hSw); clear hSw; go_simp <;> with_reducible rfl)
                  simp only [Act.put, List.setIfInBounds_toArray, List.set_cons_zero, List.set_cons_succ]
                  refine wpAnyH_ready (rs := [9]) (by kernel_rfl) (by simp) ?_
                  refine AllReadyH.cons (List.getElem?_toArray.trans rfl) (fun K hK => ?_) AllReadyH.nil
                  go_simp; obtain ⟨bz, hbz⟩ : ∃ bz, bz = wc.heap.size := ⟨_, rfl⟩; rw [← hbz]; have hbn := (Below.refl wc.heap.size wc).alloc (Nat.le_refl _) (.cells zP.toArray 35); have hzb : IxBox (wc.alloc (.cells zP.toArray 35)) bz zP := (by rw [hbz]; exact IxBox.new wc zP); (try have HNE : Hid (∀ i, own3 i → i ≠ bz) := Lib.hid fun i hi => Nat.ne_of_lt (by rw [hbz]; exact ixPrg.lt HR3.out hi)); (try have HNR : Hid (rb3 ≠ bz) := Lib.hid (Nat.ne_of_lt (by rw [hbz]; exact HX3.out.lt))); have HBZ := Lib.hid (show w5.heap.size ≤ bz by rw [hbz]; exact HB0.out.size); replace HB0 := Lib.hid (HB0.out.trans (hbn.mono HB0.out.size)); have hP := HPS.out _ HB0.out; (try replace HO1 := Lib.hid (own_belowN HO1.out hbn)); (try replace HVB := Lib.hid ((Vs.below HVB.out hbn).mono hbn.size)); (try replace HDV := Lib.hid (show Dv _ _ _ _ _ from (Vs.below HDV.out hbn).mono hbn.size)); (try replace HZB := Lib.hid (HZB.out.below hbn)); (try replace HR3 := Lib.hid (ixPrg.on HR3.out hbn)); (try replace HX3 := Lib.hid (HX3.out.below hbn)); have HZB := Lib.hid hzb; clear hbn hzb hbz; generalize wc.alloc (.cells zP.toArray 35) = wc at *
                  refine hK.out _ _ hP (fun hHeld => ?_)
                  clear hK K
                  refine wpAnyH_ready (rs := [10]) (by kernel_rfl) (by simp) ?_
                  refine AllReadyH.cons (List.getElem?_toArray.trans rfl) (fun K hK => ?_) AllReadyH.nil
                  rw [if_pos (by rfl)]; refine wp_store_mid 35 (.tmp 11) (.tmp 42) (by rfl) _ 0 cs3.toArray (by rfl) (by rfl) (HZB.out.there (by rw [ixP_length]; simpa using (ixPrg.len HR3.out).symm)) (by rw [show cs3.toArray.size = 176 by simpa using ixPrg.len HR3.out]; exact ixPrg.size) (all_oneCell_toArray (ixPrg.one HR3.out)) ?_; rw [List.toList_toArray]; have HEND := Lib.hid (pair_put HZB.out HR3.out HNE.out HX3.out HNR.out HB0.out HBZ.out); have hP := HPS.out _ HEND.out.2; generalize wc.setCells bz 0 cs3 = wc at *
                  refine hK.out _ _ hP (fun hHeld => ?_)
                  clear hK K
                  refine wpAnyH_take (i := 11) (v := ?_) (List.getElem?_toArray.trans rfl) (by kernel_rfl) (by kernel_rfl) (by kernel_rfl) (fun _ _ _ h => h) (Or.inl ⟨by rfl, ?_⟩) (by assumption) ?_
                  case refine_2 => (intro w hSw; (try dsimp only at hSw); clear hSw; go_simp <;> with_reducible rfl)
                  simp only [Act.put, List.setIfInBounds_toArray, List.set_cons_zero, List.set_cons_succ]
                  refine wpAnyH_done (by kernel_rfl) ?_ _
                  refine NoPanic.normal ?_
                  go_wp2_with fail
                  go_meet
                  exact ⟨bz, rb3, cs3, own3, rfl, rfl, HEND⟩
                · go_simp; obtain ⟨bz, hbz⟩ : ∃ bz, bz = wc.heap.size := ⟨_, rfl⟩; rw [← hbz]; have hbn := (Below.refl wc.heap.size wc).alloc (Nat.le_refl _) (.cells zP.toArray 35); have hzb : IxBox (wc.alloc (.cells zP.toArray 35)) bz zP := (by rw [hbz]; exact IxBox.new wc zP); (try have HNE : Hid (∀ i, own3 i → i ≠ bz) := Lib.hid fun i hi => Nat.ne_of_lt (by rw [hbz]; exact ixPrg.lt HR3.out hi)); (try have HNR : Hid (rb3 ≠ bz) := Lib.hid (Nat.ne_of_lt (by rw [hbz]; exact HX3.out.lt))); have HBZ := Lib.hid (show w5.heap.size ≤ bz by rw [hbz]; exact HB0.out.size); replace HB0 := Lib.hid (HB0.out.trans (hbn.mono HB0.out.size)); have hP := HPS.out _ HB0.out; (try replace HO1 := Lib.hid (own_belowN HO1.out hbn)); (try replace HVB := Lib.hid ((Vs.below HVB.out hbn).mono hbn.size)); (try replace HDV := Lib.hid (show Dv _ _ _ _ _ from (Vs.below HDV.out hbn).mono hbn.size)); (try replace HZB := Lib.hid (HZB.out.below hbn)); (try replace HR3 := Lib.hid (ixPrg.on HR3.out hbn)); (try replace HX3 := Lib.hid (HX3.out.below hbn)); have HZB := Lib.hid hzb; clear hbn hzb hbz; generalize wc.alloc (.cells zP.toArray 35) = wc at *
                  refine hK.out _ _ hP (fun hHeld => ?_)
                  clear hK K
                  refine wpAnyH_ready (rs := [5]) (by kernel_rfl) (by simp) ?_
                  refine AllReadyH.cons (List.getElem?_toArray.trans rfl) (fun K hK => ?_) AllReadyH.nil
                  go_simp
                  go_at_call 6; (with_reducible refine (made_any ixPrg HZR.out (ixP_length _ _) A2 (n + 1) k2 (L ++ [d]) wc HDV.out (by have := HN.out; omega)).mono ?_); rintro e wc ⟨cs3, own3, rb3, rfl, hR3, ho3, hx3, hr3, hbn⟩; (try have HNE := Lib.hid (fun i hi => Nat.ne_of_gt (Nat.lt_of_lt_of_le HZB.out.lt (ho3 i hi).1))); (try have HNR : Hid (rb3 ≠ bz) := Lib.hid (Nat.ne_of_gt (Nat.lt_of_lt_of_le HZB.out.lt hr3))); replace HB0 := Lib.hid (HB0.out.trans (hbn.mono HB0.out.size)); have hP := HPS.out _ HB0.out; (try replace HO1 := Lib.hid (own_belowN HO1.out hbn)); (try replace HVB := Lib.hid ((Vs.below HVB.out hbn).mono hbn.size)); (try replace HDV := Lib.hid (show Dv _ _ _ _ _ from (Vs.below HDV.out hbn).mono hbn.size)); (try replace HZB := Lib.hid (HZB.out.below hbn)); (try replace HR3 := Lib.hid (ixPrg.on HR3.out hbn)); (try replace HX3 := Lib.hid (HX3.out.below hbn)); have HR3 := Lib.hid hR3; have HX3 := Lib.hid hx3; clear hbn hR3 ho3 hx3 hr3 HDV
                  refine hK.out _ _ hP (fun hHeld => ?_)
                  clear hK K
                  refine wpAnyH_take (i := 6) (v := ?_) (List.getElem?_toArray.trans rfl) (by kernel_rfl) (by kernel_rfl) (by kernel_rfl) (fun _ _ _ h => h) (Or.inl ⟨by rfl, ?_⟩) (by assumption) ?_
                  case refine_2 => (intro w hSw; (try dsimp only at hSw); clear hSw; go_simp <;> with_reducible rfl)
                  simp only [Act.put, List.setIfInBounds_toArray, List.set_cons_zero, List.set_cons_succ]
                  refine wpAnyH_take (i := 7) (v := ?_) (List.getElem?_toArray.trans rfl) (by kernel_rfl) (by kernel_rfl) (by kernel_rfl) (fun _ _ _ h => h) (Or.inl ⟨by rfl, ?_⟩) (by assumption) ?_
                  case refine_2 => (intro w hSw; (try dsimp only at hSw); clear hSw; go_simp <;> with_reducible rfl)
                  simp only [Act.put, List.setIfInBounds_toArray, List.set_cons_zero, List.set_cons_succ]
                  refine wpAnyH_take (i := 8) (v := ?_) (List.getElem?_toArray.trans rfl) (by kernel_rfl) (by kernel_rfl) (by kernel_rfl) (fun _ _ _ h => h) (Or.inl ⟨by rfl, ?_⟩) (by assumption) ?_
                  case refine_2 => (intro w hSw; (try dsimp only at hSw); clear hSw; go_simp <;> with_reducible rfl)
                  simp only [Act.put, List.setIfInBounds_toArray, List.set_cons_zero, List.set_cons_succ]
                  refine wpAnyH_ready (rs := [10]) (by kernel_rfl) (by simp) ?_
                  refine AllReadyH.cons (List.getElem?_toArray.trans rfl) (fun K hK => ?_) AllReadyH.nil
                  rw [if_pos (by rfl)]; refine wp_store_mid 35 (.tmp 11) (.tmp 42) (by rfl) _ 0 cs3.toArray (by rfl) (by rfl) (HZB.out.there (by rw [ixP_length]; simpa using (ixPrg.len HR3.out).symm)) (by rw [show cs3.toArray.size = 176 by simpa using ixPrg.len HR3.out]; exact ixPrg.size) (all_oneCell_toArray (ixPrg.one HR3.out)) ?_; rw [List.toList_toArray]; have HEND := Lib.hid (pair_put HZB.out HR3.out HNE.out HX3.out HNR.out HB0.out HBZ.out); have hP := HPS.out _ HEND.out.2; generalize wc.setCells bz 0 cs3 = wc at *
                  refine hK.out _ _ hP (fun hHeld => ?_)
                  clear hK K
                  refine wpAnyH_take (i := 11) (v := ?_) (List.getElem?_toArray.trans rfl) (by kernel_rfl) (by kernel_rfl) (by kernel_rfl) (fun _ _ _ h => h) (Or.inl ⟨by rfl, ?_⟩) (by assumption) ?_
                  case refine_2 => (intro w hSw; (try dsimp only at hSw); clear hSw; go_simp <;> with_reducible rfl)
                  simp only [Act.put, List.setIfInBounds_toArray, List.set_cons_zero, List.set_cons_succ]
                  refine wpAnyH_done (by kernel_rfl) ?_ _
                  refine NoPanic.normal ?_
                  go_wp2_with fail
                  go_meet
                  exact ⟨bz, rb3, cs3, own3, rfl, rfl, HEND⟩
              · go_simp; obtain ⟨bz, hbz⟩ : ∃ bz, bz = wc.heap.size := ⟨_, rfl⟩; rw [← hbz]; have hbn := (Below.refl wc.heap.size wc).alloc (Nat.le_refl _) (.cells zP.toArray 35); have hzb : IxBox (wc.alloc (.cells zP.toArray 35)) bz zP := (by rw [hbz]; exact IxBox.new wc zP); (try have HNE : Hid (∀ i, own3 i → i ≠ bz) := Lib.hid fun i hi => Nat.ne_of_lt (by rw [hbz]; exact ixPrg.lt HR3.out hi)); (try have HNR : Hid (rb3 ≠ bz) := Lib.hid (Nat.ne_of_lt (by rw [hbz]; exact HX3.out.lt))); have HBZ := Lib.hid (show w5.heap.size ≤ bz by rw [hbz]; exact HB0.out.size); replace HB0 := Lib.hid (HB0.out.trans (hbn.mono HB0.out.size)); have hP := HPS.out _ HB0.out; (try replace HO1 := Lib.hid (own_belowN HO1.out hbn)); (try replace HVB := Lib.hid ((Vs.below HVB.out hbn).mono hbn.size)); (try replace HDV := Lib.hid (show Dv _ _ _ _ _ from (Vs.below HDV.out hbn).mono hbn.size)); (try replace HZB := Lib.hid (HZB.out.below hbn)); (try replace HR3 := Lib.hid (ixPrg.on HR3.out hbn)); (try replace HX3 := Lib.hid (HX3.out.below hbn)); have HZB := Lib.hid hzb; clear hbn hzb hbz; generalize wc.alloc (.cells zP.toArray 35) = wc at *
                refine hK.out _ _ hP (fun hHeld => ?_)
                clear hK K
                refine wpAnyH_ready (rs := [4]) (by kernel_rfl) (by simp) ?_
                refine AllReadyH.cons (List.getElem?_toArray.trans rfl) (fun K hK => ?_) AllReadyH.nil
                refine step_append_rows (by rfl) _ _ _ (by rfl) w5.heap.size 52 i0 zz 9 80 Tryd.underlying22 HI0.out HZ0.out HSI.out HBI.out HZC.out (by omega) (.slice A1 n k1) n (ddV L) (by rfl) HO1.out _ _ 1 1 dc (by rfl) (by rw [show 1 * 9 = dc.length from HCL.out.symm]; simpa using HVB.out) HONE.out (n + 1) rfl (ddV (L ++ [d])) (by rw [HDC.out, ← ddV_append]) (by have := HN.out; omega) (by have := HN.out; omega) HB0.out.size ?_; intro A2 k2 wc ho2 hg2; have hbo := HB0.out.grown hg2 HB0.out.size (fun q hq => (HO1.out.lt q hq).1); replace HB0 := Lib.hid hbo; have hP := HPS.out _ HB0.out; have HDV := Lib.hid (dv_of_own ho2); (try replace HZB := Lib.hid (zb_kept HZB.out hg2 HO1.out)); clear HO1 HVB hbo hg2 ho2
                refine hK.out _ _ hP (fun hHeld => ?_)
                clear hK K
                refine wpAnyH_ready (rs := [5]) (by kernel_rfl) (by simp) ?_
                refine AllReadyH.cons (List.getElem?_toArray.trans rfl) (fun K hK => ?_) AllReadyH.nil
                go_simp
                go_at_call 6; (with_reducible refine (made_any ixPrg HZR.out (ixP_length _ _) A2 (n + 1) k2 (L ++ [d]) wc HDV.out (by have := HN.out; omega)).mono ?_); rintro e wc ⟨cs3, own3, rb3, rfl, hR3, ho3, hx3, hr3, hbn⟩; (try have HNE := Lib.hid (fun i hi => Nat.ne_of_gt (Nat.lt_of_lt_of_le HZB.out.lt (ho3 i hi).1))); (try have HNR : Hid (rb3 ≠ bz) := Lib.hid (Nat.ne_of_gt (Nat.lt_of_lt_of_le HZB.out.lt hr3))); replace HB0 := Lib.hid (HB0.out.trans (hbn.mono HB0.out.size)); have hP := HPS.out _ HB0.out; (try replace HO1 := Lib.hid (own_belowN HO1.out hbn)); (try replace HVB := Lib.hid ((Vs.below HVB.out hbn).mono hbn.size)); (try replace HDV := Lib.hid (show Dv _ _ _ _ _ from (Vs.below HDV.out hbn).mono hbn.size)); (try replace HZB := Lib.hid (HZB.out.below hbn)); (try replace HR3 := Lib.hid (ixPrg.on HR3.out hbn)); (try replace HX3 := Lib.hid (HX3.out.below hbn)); have HR3 := Lib.hid hR3; have HX3 := Lib.hid hx3; clear hbn hR3 ho3 hx3 hr3 HDV
                refine hK.out _ _ hP (fun hHeld => ?_)
                clear hK K
                refine wpAnyH_take (i := 6) (v := ?_) (List.getElem?_toArray.trans rfl) (by kernel_rfl) (by kernel_rfl) (by kernel_rfl) (fun _ _ _ h => h) (Or.inl ⟨by rfl, ?_⟩) (by assumption) ?_
                case refine_2 => (intro w hSw; (try dsimp only at hSw); clear hSw; go_simp <;> with_reducible rfl)
                simp only [Act.put, List.setIfInBounds_toArray, List.set_cons_zero, List.set_cons_succ]
                refine wpAnyH_take (i := 7) (v := ?_) (List.getElem?_toArray.trans rfl) (by kernel_rfl) (by kernel_rfl) (by kernel_rfl) (fun _ _ _ h => h) (Or.inl ⟨by rfl, ?_⟩) (by assumption) ?_
                case refine_2 => (intro w hSw; (try dsimp only at hSw); clear hSw; go_simp <;> with_reducible rfl)
                simp only [Act.put, List.setIfInBounds_toArray, List.set_cons_zero, List.set_cons_succ]
                refine wpAnyH_take (i := 8) (v := ?_) (List.getElem?_toArray.trans rfl) (by kernel_rfl) (by kernel_rfl) (by kernel_rfl) (fun _ _ _ h => h) (Or.inl ⟨by rfl, ?_⟩) (by assumption) ?_
                case refine_2 => (intro w hSw; (try dsimp only at hSw); clear hSw; go_simp <;> with_reducible rfl)
                simp only [Act.put, List.setIfInBounds_toArray, List.set_cons_zero, List.set_cons_succ]
                refine wpAnyH_ready (rs := [10]) (by kernel_rfl) (by simp) ?_
                refine AllReadyH.cons (List.getElem?_toArray.trans rfl) (fun K hK => ?_) AllReadyH.nil
                rw [if_pos (by rfl)]; refine wp_store_mid 35 (.tmp 11) (.tmp 42) (by rfl) _ 0 cs3.toArray (by rfl) (by rfl) (HZB.out.there (by rw [ixP_length]; simpa using (ixPrg.len HR3.out).symm)) (by rw [show cs3.toArray.size = 176 by simpa using ixPrg.len HR3.out]; exact ixPrg.size) (all_oneCell_toArray (ixPrg.one HR3.out)) ?_; rw [List.toList_toArray]; have HEND := Lib.hid (pair_put HZB.out HR3.out HNE.out HX3.out HNR.out HB0.out HBZ.out); have hP := HPS.out _ HEND.out.2; generalize wc.setCells bz 0 cs3 = wc at *
                refine hK.out _ _ hP (fun hHeld => ?_)
                clear hK K
                refine wpAnyH_take (i := 11) (v := ?_) (List.getElem?_toArray.trans rfl) (by kernel_rfl) (by kernel_rfl) (by kernel_rfl) (fun _ _ _ h => h) (Or.inl ⟨by rfl, ?_⟩) (by assumption) ?_
                case refine_2 => (intro w hSw; (try dsimp only at hSw); clear hSw; go_simp <;> with_reducible rfl)
                simp only [Act.put, List.setIfInBounds_toArray, List.set_cons_zero, List.set_cons_succ]
                refine wpAnyH_done (by kernel_rfl) ?_ _
                refine NoPanic.normal ?_
                go_wp2_with fail
                go_meet
                exact ⟨bz, rb3, cs3, own3, rfl, rfl, HEND⟩
            · go_simp; obtain ⟨bz, hbz⟩ : ∃ bz, bz = wc.heap.size := ⟨_, rfl⟩; rw [← hbz]; have hbn := (Below.refl wc.heap.size wc).alloc (Nat.le_refl _) (.cells zP.toArray 35); have hzb : IxBox (wc.alloc (.cells zP.toArray 35)) bz zP := (by rw [hbz]; exact IxBox.new wc zP); (try have HNE : Hid (∀ i, own3 i → i ≠ bz) := Lib.hid fun i hi => Nat.ne_of_lt (by rw [hbz]; exact ixPrg.lt HR3.out hi)); (try have HNR : Hid (rb3 ≠ bz) := Lib.hid (Nat.ne_of_lt (by rw [hbz]; exact HX3.out.lt))); have HBZ := Lib.hid (show w5.heap.size ≤ bz by rw [hbz]; exact HB0.out.size); replace HB0 := Lib.hid (HB0.out.trans (hbn.mono HB0.out.size)); have hP := HPS.out _ HB0.out; (try replace HO1 := Lib.hid (own_belowN HO1.out hbn)); (try replace HVB := Lib.hid ((Vs.below HVB.out hbn).mono hbn.size)); (try replace HDV := Lib.hid (show Dv _ _ _ _ _ from (Vs.below HDV.out hbn).mono hbn.size)); (try replace HZB := Lib.hid (HZB.out.below hbn)); (try replace HR3 := Lib.hid (ixPrg.on HR3.out hbn)); (try replace HX3 := Lib.hid (HX3.out.below hbn)); have HZB := Lib.hid hzb; clear hbn hzb hbz; generalize wc.alloc (.cells zP.toArray 35) = wc at *
              refine hK.out _ _ hP (fun hHeld => ?_)
              clear hK K
              refine wpAnyH_ready (rs := [1]) (by kernel_rfl) (by simp) ?_
              refine AllReadyH.cons (List.getElem?_toArray.trans rfl) (fun K hK => ?_) AllReadyH.nil
              refine step_append_rows (by rfl) _ _ _ (by rfl) w5.heap.size 52 i0 zz 9 80 Tryd.underlying22 HI0.out HZ0.out HSI.out HBI.out HZC.out (by omega) (.slice none 0 0) 0 [] (by rfl) (World.ownsRow_nil _ _ _ _) w.heap.size A n c (ddV L) (by rfl) (HAW.out _ HB0.out) (ddV_one L) n (Nat.zero_add n) (ddV L) (List.nil_append _) (by have := HN.out; omega) (by have := HN.out; omega) HB0.out.size ?_; intro A1 k1 wc ho1 hg1; have hbn := (Below.refl _ _).grown hg1 (Nat.le_refl _) (by simp [Value.ownBlock]); replace HB0 := Lib.hid (HB0.out.trans (hbn.mono HB0.out.size)); have hP := HPS.out _ HB0.out; (try replace HO1 := Lib.hid (own_belowN HO1.out hbn)); (try replace HVB := Lib.hid ((Vs.below HVB.out hbn).mono hbn.size)); (try replace HDV := Lib.hid (show Dv _ _ _ _ _ from (Vs.below HDV.out hbn).mono hbn.size)); (try replace HZB := Lib.hid (HZB.out.below hbn)); (try replace HR3 := Lib.hid (ixPrg.on HR3.out hbn)); (try replace HX3 := Lib.hid (HX3.out.below hbn)); have HO1 := Lib.hid ho1; clear hbn ho1 hg1
              refine hK.out _ _ hP (fun hHeld => ?_)
              clear hK K
              refine wpAnyH_ready (rs := [4]) (by kernel_rfl) (by simp) ?_
              refine AllReadyH.cons (List.getElem?_toArray.trans rfl) (fun K hK => ?_) AllReadyH.nil
              refine step_append_rows (by rfl) _ _ _ (by rfl) w5.heap.size 52 i0 zz 9 80 Tryd.underlying22 HI0.out HZ0.out HSI.out HBI.out HZC.out (by omega) (.slice A1 n k1) n (ddV L) (by rfl) HO1.out _ _ 1 1 dc (by rfl) (by rw [show 1 * 9 = dc.length from HCL.out.symm]; simpa using HVB.out) HONE.out (n + 1) rfl (ddV (L ++ [d])) (by rw [HDC.out, ← ddV_append]) (by have := HN.out; omega) (by have := HN.out; omega) HB0.out.size ?_; intro A2 k2 wc ho2 hg2; have hbo := HB0.out.grown hg2 HB0.out.size (fun q hq => (HO1.out.lt q hq).1); replace HB0 := Lib.hid hbo; have hP := HPS.out _ HB0.out; have HDV := Lib.hid (dv_of_own ho2); (try replace HZB := Lib.hid (zb_kept HZB.out hg2 HO1.out)); clear HO1 HVB hbo hg2 ho2
              refine hK.out _ _ hP (fun hHeld => ?_)
              clear hK K
              refine wpAnyH_ready (rs := [5]) (by kernel_rfl) (by simp) ?_
              refine AllReadyH.cons (List.getElem?_toArray.trans rfl) (fun K hK => ?_) AllReadyH.nil
              go_simp
              go_at_call 6; (with_reducible refine (made_any ixPrg HZR.out (ixP_length _ _) A2 (n + 1) k2 (L ++ [d]) wc HDV.out (by have := HN.out; omega)).mono ?_); rintro e wc ⟨cs3, own3, rb3, rfl, hR3, ho3, hx3, hr3, hbn⟩; (try have HNE := Lib.hid (fun i hi => Nat.ne_of_gt (Nat.lt_of_lt_of_le HZB.out.lt (ho3 i hi).1))); (try have HNR : Hid (rb3 ≠ bz) := Lib.hid (Nat.ne_of_gt (Nat.lt_of_lt_of_le HZB.out.lt hr3))); replace HB0 := Lib.hid (HB0.out.trans (hbn.mono HB0.out.size)); have hP := HPS.out _ HB0.out; (try replace HO1 := Lib.hid (own_belowN HO1.out hbn)); (try replace HVB := Lib.hid ((Vs.below HVB.out hbn).mono hbn.size)); (try replace HDV := Lib.hid (show Dv _ _ _ _ _ from (Vs.below HDV.out hbn).mono hbn.size)); (try replace HZB := Lib.hid (HZB.out.below hbn)); (try replace HR3 := Lib.hid (ixPrg.on HR3.out hbn)); (try replace HX3 := Lib.hid (HX3.out.below hbn)); have HR3 := Lib.hid hR3; have HX3 := Lib.hid hx3; clear hbn hR3 ho3 hx3 hr3 HDV
              refine hK.out _ _ hP (fun hHeld => ?_)
              clear hK K
              refine wpAnyH_take (i := 6) (v := ?_) (List.getElem?_toArray.trans rfl) (by kernel_rfl) (by kernel_rfl) (by kernel_rfl) (fun _ _ _ h => h) (Or.inl ⟨by rfl, ?_⟩) (by assumption) ?_
              case refine_2 => (intro w hSw; (try dsimp only at hSw); clear hSw; go_simp <;> with_reducible rfl)
              simp only [Act.put, List.setIfInBounds_toArray, List.set_cons_zero, List.set_cons_succ]
              refine wpAnyH_take (i := 7) (v := ?_) (List.getElem?_toArray.trans rfl) (by kernel_rfl) (by kernel_rfl) (by kernel_rfl) (fun _ _ _ h => h) (Or.inl ⟨by rfl, ?_⟩) (by assumption) ?_
              case refine_2 => (intro w hSw; (try dsimp only at hSw); clear hSw; go_simp <;> with_reducible rfl)
              simp only [Act.put, List.setIfInBounds_toArray, List.set_cons_zero, List.set_cons_succ]
              refine wpAnyH_take (i := 8) (v := ?_) (List.getElem?_toArray.trans rfl) (by kernel_rfl) (by kernel_rfl) (by kernel_rfl) (fun _ _ _ h => h) (Or.inl ⟨by rfl, ?_⟩) (by assumption) ?_
              case refine_2 => (intro w hSw; (try dsimp only at hSw); clear hSw; go_simp <;> with_reducible rfl)
              simp only [Act.put, List.setIfInBounds_toArray, List.set_cons_zero, List.set_cons_succ]
              refine wpAnyH_ready (rs := [10]) (by kernel_rfl) (by simp) ?_
              refine AllReadyH.cons (List.getElem?_toArray.trans rfl) (fun K hK => ?_) AllReadyH.nil
              rw [if_pos (by rfl)]; refine wp_store_mid 35 (.tmp 11) (.tmp 42) (by rfl) _ 0 cs3.toArray (by rfl) (by rfl) (HZB.out.there (by rw [ixP_length]; simpa using (ixPrg.len HR3.out).symm)) (by rw [show cs3.toArray.size = 176 by simpa using ixPrg.len HR3.out]; exact ixPrg.size) (all_oneCell_toArray (ixPrg.one HR3.out)) ?_; rw [List.toList_toArray]; have HEND := Lib.hid (pair_put HZB.out HR3.out HNE.out HX3.out HNR.out HB0.out HBZ.out); have hP := HPS.out _ HEND.out.2; generalize wc.setCells bz 0 cs3 = wc at *
              refine hK.out _ _ hP (fun hHeld => ?_)
              clear hK K
              refine wpAnyH_take (i := 11) (v := ?_) (List.getElem?_toArray.trans rfl) (by kernel_rfl) (by kernel_rfl) (by kernel_rfl) (fun _ _ _ h => h) (Or.inl ⟨by rfl, ?_⟩) (by assumption) ?_
              case refine_2 => (intro w hSw; (try dsimp only at hSw); clear hSw; go_simp <;> with_reducible rfl)
              simp only [Act.put, List.setIfInBounds_toArray, List.set_cons_zero, List.set_cons_succ]
              refine wpAnyH_done (by kernel_rfl) ?_ _
              refine NoPanic.normal ?_
              go_wp2_with fail
              go_meet
              exact ⟨bz, rb3, cs3, own3, rfl, rfl, HEND⟩
          · go_simp; obtain ⟨bz, hbz⟩ : ∃ bz, bz = wc.heap.size := ⟨_, rfl⟩; rw [← hbz]; have hbn := (Below.refl wc.heap.size wc).alloc (Nat.le_refl _) (.cells zP.toArray 35); have hzb : IxBox (wc.alloc (.cells zP.toArray 35)) bz zP := (by rw [hbz]; exact IxBox.new wc zP); (try have HNE : Hid (∀ i, own3 i → i ≠ bz) := Lib.hid fun i hi => Nat.ne_of_lt (by rw [hbz]; exact ixPrg.lt HR3.out hi)); (try have HNR : Hid (rb3 ≠ bz) := Lib.hid (Nat.ne_of_lt (by rw [hbz]; exact HX3.out.lt))); have HBZ := Lib.hid (show w5.heap.size ≤ bz by rw [hbz]; exact HB0.out.size); replace HB0 := Lib.hid (HB0.out.trans (hbn.mono HB0.out.size)); have hP := HPS.out _ HB0.out; (try replace HO1 := Lib.hid (own_belowN HO1.out hbn)); (try replace HVB := Lib.hid ((Vs.below HVB.out hbn).mono hbn.size)); (try replace HDV := Lib.hid (show Dv _ _ _ _ _ from (Vs.below HDV.out hbn).mono hbn.size)); (try replace HZB := Lib.hid (HZB.out.below hbn)); (try replace HR3 := Lib.hid (ixPrg.on HR3.out hbn)); (try replace HX3 := Lib.hid (HX3.out.below hbn)); have HZB := Lib.hid hzb; clear hbn hzb hbz; generalize wc.alloc (.cells zP.toArray 35) = wc at *
            refine hK.out _ _ hP (fun hHeld => ?_)
            clear hK K
            refine wpAnyH_ready (rs := [1, 3]) (by kernel_rfl) (by simp) ?_
            refine AllReadyH.cons (List.getElem?_toArray.trans rfl) (fun K hK => ?_) (AllReadyH.cons (List.getElem?_toArray.trans rfl) (fun K hK => ?_) AllReadyH.nil)
            · refine step_append_rows (by rfl) _ _ _ (by rfl) w5.heap.size 52 i0 zz 9 80 Tryd.underlying22 HI0.out HZ0.out HSI.out HBI.out HZC.out (by omega) (.slice none 0 0) 0 [] (by rfl) (World.ownsRow_nil _ _ _ _) w.heap.size A n c (ddV L) (by rfl) (HAW.out _ HB0.out) (ddV_one L) n (Nat.zero_add n) (ddV L) (List.nil_append _) (by have := HN.out; omega) (by have := HN.out; omega) HB0.out.size ?_; intro A1 k1 wc ho1 hg1; have hbn := (Below.refl _ _).grown hg1 (Nat.le_refl _) (by simp [Value.ownBlock]); replace HB0 := Lib.hid (HB0.out.trans (hbn.mono HB0.out.size)); have hP := HPS.out _ HB0.out; (try replace HO1 := Lib.hid (own_belowN HO1.out hbn)); (try replace HVB := Lib.hid ((Vs.below HVB.out hbn).mono hbn.size)); (try replace HDV := Lib.hid (show Dv _ _ _ _ _ from (Vs.below HDV.out hbn).mono hbn.size)); (try replace HZB := Lib.hid (HZB.out.below hbn)); (try replace HR3 := Lib.hid (ixPrg.on HR3.out hbn)); (try replace HX3 := Lib.hid (HX3.out.below hbn)); have HO1 := Lib.hid ho1; clear hbn ho1 hg1
              refine hK.out _ _ hP (fun hHeld => ?_)
              clear hK K
              refine wpAnyH_ready (rs := [3]) (by kernel_rfl) (by simp) ?_
              refine AllReadyH.cons (List.getElem?_toArray.trans rfl) (fun K hK => ?_) AllReadyH.nil
              go_simp; rw [build_nine HDC0.out]; go_simp; have hbn := (Below.refl wc.heap.size wc).alloc (Nat.le_refl _) (.cells dc.toArray 52); have hvb := (Vs.new wc 52 (0, 0) dc.toArray).mono (B' := (wc.alloc (.cells dc.toArray 52)).heap.size) (by simp); replace HB0 := Lib.hid (HB0.out.trans (hbn.mono HB0.out.size)); have hP := HPS.out _ HB0.out; (try replace HO1 := Lib.hid (own_belowN HO1.out hbn)); (try replace HVB := Lib.hid ((Vs.below HVB.out hbn).mono hbn.size)); (try replace HDV := Lib.hid (show Dv _ _ _ _ _ from (Vs.below HDV.out hbn).mono hbn.size)); (try replace HZB := Lib.hid (HZB.out.below hbn)); (try replace HR3 := Lib.hid (ixPrg.on HR3.out hbn)); (try replace HX3 := Lib.hid (HX3.out.below hbn)); have HVB := Lib.hid hvb; clear hbn hvb; generalize wc.alloc (.cells dc.toArray 52) = wc at *
              refine hK.out _ _ hP (fun hHeld => ?_)
              clear hK K
              refine wpAnyH_ready (rs := [4]) (by kernel_rfl) (by simp) ?_
              refine AllReadyH.cons (List.getElem?_toArray.trans rfl) (fun K hK => ?_) AllReadyH.nil
              refine step_append_rows (by rfl) _ _ _ (by rfl) w5.heap.size 52 i0 zz 9 80 Tryd.underlying22 HI0.out HZ0.out HSI.out HBI.out HZC.out (by omega) (.slice A1 n k1) n (ddV L) (by rfl) HO1.out _ _ 1 1 dc (by rfl) (by rw [show 1 * 9 = dc.length from HCL.out.symm]; simpa using HVB.out) HONE.out (n + 1) rfl (ddV (L ++ [d])) (by rw [HDC.out, ← ddV_append]) (by have := HN.out; omega) (by have := HN.out; omega) HB0.out.size ?_; intro A2 k2 wc ho2 hg2; have hbo := HB0.out.grown hg2 HB0.out.size (fun q hq => (HO1.out.lt q hq).1); replace HB0 := Lib.hid hbo; have hP := HPS.out _ HB0.out; have HDV := Lib.hid (dv_of_own ho2); (try replace HZB := Lib.hid (zb_kept HZB.out hg2 HO1.out)); clear HO1 HVB hbo hg2 ho2
              refine hK.out _ _ hP (fun hHeld => ?_)
              clear hK K
              refine wpAnyH_ready (rs := [5]) (by kernel_rfl) (by simp) ?_
              refine AllReadyH.cons (List.getElem?_toArray.trans rfl) (fun K hK => ?_) AllReadyH.nil
              go_simp
              go_at_call 6; (with_reducible refine (made_any ixPrg HZR.out (ixP_length _ _) A2 (n + 1) k2 (L ++ [d]) wc HDV.out (by have := HN.out; omega)).mono ?_); rintro e wc ⟨cs3, own3, rb3, rfl, hR3, ho3, hx3, hr3, hbn⟩; (try have HNE := Lib.hid (fun i hi => Nat.ne_of_gt (Nat.lt_of_lt_of_le HZB.out.lt (ho3 i hi).1))); (try have HNR : Hid (rb3 ≠ bz) := Lib.hid (Nat.ne_of_gt (Nat.lt_of_lt_of_le HZB.out.lt hr3))); replace HB0 := Lib.hid (HB0.out.trans (hbn.mono HB0.out.size)); have hP := HPS.out _ HB0.out; (try replace HO1 := Lib.hid (own_belowN HO1.out hbn)); (try replace HVB := Lib.hid ((Vs.below HVB.out hbn).mono hbn.size)); (try replace HDV := Lib.hid (show Dv _ _ _ _ _ from (Vs.below HDV.out hbn).mono hbn.size)); (try replace HZB := Lib.hid (HZB.out.below hbn)); (try replace HR3 := Lib.hid (ixPrg.on HR3.out hbn)); (try replace HX3 := Lib.hid (HX3.out.below hbn)); have HR3 := Lib.hid hR3; have HX3 := Lib.hid hx3; clear hbn hR3 ho3 hx3 hr3 HDV
              refine hK.out _ _ hP (fun hHeld => ?_)
              clear hK K
              refine wpAnyH_take (i := 6) (v := ?_) (List.getElem?_toArray.trans rfl) (by kernel_rfl) (by kernel_rfl) (by kernel_rfl) (fun _ _ _ h => h) (Or.inl ⟨by rfl, ?_⟩) (by assumption) ?_
              case refine_2 => (intro w hSw; (try dsimp only at hSw); clear hSw; go_simp <;> with_reducible rfl)
              simp only [Act.put, List.setIfInBounds_toArray, List.set_cons_zero, List.set_cons_succ]
              refine wpAnyH_take (i := 7) (v := ?_) (List.getElem?_toArray.trans rfl) (by kernel_rfl) (by kernel_rfl) (by kernel_rfl) (fun _ _ _ h => h) (Or.inl ⟨by rfl, ?_⟩) (by assumption) ?_
              case refine_2 => (intro w hSw; (try dsimp only at hSw); clear hSw; go_simp <;> with_reducible rfl)
              simp only [Act.put, List.setIfInBounds_toArray, List.set_cons_zero, List.set_cons_succ]
              refine wpAnyH_take (i := 8) (v := ?_) (List.getElem?_toArray.trans rfl) (by kernel_rfl) (by kernel_rfl) (by kernel_rfl) (fun _ _ _ h => h) (Or.inl ⟨by rfl, ?_⟩) (by assumption) ?_
              case refine_2 => (intro w hSw; (try dsimp only at hSw); clear hSw; go_simp <;> with_reducible rfl)
              simp only [Act.put, List.setIfInBounds_toArray, List.set_cons_zero, List.set_cons_succ]
              refine wpAnyH_ready (rs := [10]) (by kernel_rfl) (by simp) ?_
              refine AllReadyH.cons (List.getElem?_toArray.trans rfl) (fun K hK => ?_) AllReadyH.nil
              rw [if_pos (by rfl)]; refine wp_store_mid 35 (.tmp 11) (.tmp 42) (by rfl) _ 0 cs3.toArray (by rfl) (by rfl) (HZB.out.there (by rw [ixP_length]; simpa using (ixPrg.len HR3.out).symm)) (by rw [show cs3.toArray.size = 176 by simpa using ixPrg.len HR3.out]; exact ixPrg.size) (all_oneCell_toArray (ixPrg.one HR3.out)) ?_; rw [List.toList_toArray]; have HEND := Lib.hid (pair_put HZB.out HR3.out HNE.out HX3.out HNR.out HB0.out HBZ.out); have hP := HPS.out _ HEND.out.2; generalize wc.setCells bz 0 cs3 = wc at *
              refine hK.out _ _ hP (fun hHeld => ?_)
              clear hK K
              refine wpAnyH_take (i := 11) (v := ?_) (List.getElem?_toArray.trans rfl) (by kernel_rfl) (by kernel_rfl) (by kernel_rfl) (fun _ _ _ h => h) (Or.inl ⟨by rfl, ?_⟩) (by assumption) ?_
              case refine_2 => (intro w hSw; (try dsimp only at hSw); clear hSw; go_simp <;> with_reducible rfl)
              simp only [Act.put, List.setIfInBounds_toArray, List.set_cons_zero, List.set_cons_succ]
              refine wpAnyH_done (by kernel_rfl) ?_ _
              refine NoPanic.normal ?_
              go_wp2_with fail
              go_meet
              exact ⟨bz, rb3, cs3, own3, rfl, rfl, HEND⟩
            · go_simp; rw [build_nine HDC0.out]; go_simp; have hbn := (Below.refl wc.heap.size wc).alloc (Nat.le_refl _) (.cells dc.toArray 52); have hvb := (Vs.new wc 52 (0, 0) dc.toArray).mono (B' := (wc.alloc (.cells dc.toArray 52)).heap.size) (by simp); replace HB0 := Lib.hid (HB0.out.trans (hbn.mono HB0.out.size)); have hP := HPS.out _ HB0.out; (try replace HO1 := Lib.hid (own_belowN HO1.out hbn)); (try replace HVB := Lib.hid ((Vs.below HVB.out hbn).mono hbn.size)); (try replace HDV := Lib.hid (show Dv _ _ _ _ _ from (Vs.below HDV.out hbn).mono hbn.size)); (try replace HZB := Lib.hid (HZB.out.below hbn)); (try replace HR3 := Lib.hid (ixPrg.on HR3.out hbn)); (try replace HX3 := Lib.hid (HX3.out.below hbn)); have HVB := Lib.hid hvb; clear hbn hvb; generalize wc.alloc (.cells dc.toArray 52) = wc at *
              refine hK.out _ _ hP (fun hHeld => ?_)
              clear hK K
              refine wpAnyH_ready (rs := [1]) (by kernel_rfl) (by simp) ?_
              refine AllReadyH.cons (List.getElem?_toArray.trans rfl) (fun K hK => ?_) AllReadyH.nil
              refine step_append_rows (by rfl) _ _ _ (by rfl) w5.heap.size 52 i0 zz 9 80 Tryd.underlying22 HI0.out HZ0.out HSI.out HBI.out HZC.out (by omega) (.slice none 0 0) 0 [] (by rfl) (World.ownsRow_nil _ _ _ _) w.heap.size A n c (ddV L) (by rfl) (HAW.out _ HB0.out) (ddV_one L) n (Nat.zero_add n) (ddV L) (List.nil_append _) (by have := HN.out; omega) (by have := HN.out; omega) HB0.out.size ?_; intro A1 k1 wc ho1 hg1; have hbn := (Below.refl _ _).grown hg1 (Nat.le_refl _) (by simp [Value.ownBlock]); replace HB0 := Lib.hid (HB0.out.trans (hbn.mono HB0.out.size)); have hP := HPS.out _ HB0.out; (try replace HO1 := Lib.hid (own_belowN HO1.out hbn)); (try replace HVB := Lib.hid ((Vs.below HVB.out hbn).mono hbn.size)); (try replace HDV := Lib.hid (show Dv _ _ _ _ _ from (Vs.below HDV.out hbn).mono hbn.size)); (try replace HZB := Lib.hid (HZB.out.below hbn)); (try replace HR3 := Lib.hid (ixPrg.on HR3.out hbn)); (try replace HX3 := Lib.hid (HX3.out.below hbn)); have HO1 := Lib.hid ho1; clear hbn ho1 hg1
              refine hK.out _ _ hP (fun hHeld => ?_)
              clear hK K
              refine wpAnyH_ready (rs := [4]) (by kernel_rfl) (by simp) ?_
              refine AllReadyH.cons (List.getElem?_toArray.trans rfl) (fun K hK => ?_) AllReadyH.nil
              refine step_append_rows (by rfl) _ _ _ (by rfl) w5.heap.size 52 i0 zz 9 80 Tryd.underlying22 HI0.out HZ0.out HSI.out HBI.out HZC.out (by omega) (.slice A1 n k1) n (ddV L) (by rfl) HO1.out _ _ 1 1 dc (by rfl) (by rw [show 1 * 9 = dc.length from HCL.out.symm]; simpa using HVB.out) HONE.out (n + 1) rfl (ddV (L ++ [d])) (by rw [HDC.out, ← ddV_append]) (by have := HN.out; omega) (by have := HN.out; omega) HB0.out.size ?_; intro A2 k2 wc ho2 hg2; have hbo := HB0.out.grown hg2 HB0.out.size (fun q hq => (HO1.out.lt q hq).1); replace HB0 := Lib.hid hbo; have hP := HPS.out _ HB0.out; have HDV := Lib.hid (dv_of_own ho2); (try replace HZB := Lib.hid (zb_kept HZB.out hg2 HO1.out)); clear HO1 HVB hbo hg2 ho2
              refine hK.out _ _ hP (fun hHeld => ?_)
              clear hK K
              refine wpAnyH_ready (rs := [5]) (by kernel_rfl) (by simp) ?_
              refine AllReadyH.cons (List.getElem?_toArray.trans rfl) (fun K hK => ?_) AllReadyH.nil
              go_simp
              go_at_call 6; (with_reducible refine (made_any ixPrg HZR.out (ixP_length _ _) A2 (n + 1) k2 (L ++ [d]) wc HDV.out (by have := HN.out; omega)).mono ?_); rintro e wc ⟨cs3, own3, rb3, rfl, hR3, ho3, hx3, hr3, hbn⟩; (try have HNE := Lib.hid (fun i hi => Nat.ne_of_gt (Nat.lt_of_lt_of_le HZB.out.lt (ho3 i hi).1))); (try have HNR : Hid (rb3 ≠ bz) := Lib.hid (Nat.ne_of_gt (Nat.lt_of_lt_of_le HZB.out.lt hr3))); replace HB0 := Lib.hid (HB0.out.trans (hbn.mono HB0.out.size)); have hP := HPS.out _ HB0.out; (try replace HO1 := Lib.hid (own_belowN HO1.out hbn)); (try replace HVB := Lib.hid ((Vs.below HVB.out hbn).mono hbn.size)); (try replace HDV := Lib.hid (show Dv _ _ _ _ _ from (Vs.below HDV.out hbn).mono hbn.size)); (try replace HZB := Lib.hid (HZB.out.below hbn)); (try replace HR3 := Lib.hid (ixPrg.on HR3.out hbn)); (try replace HX3 := Lib.hid (HX3.out.below hbn)); have HR3 := Lib.hid hR3; have HX3 := Lib.hid hx3; clear hbn hR3 ho3 hx3 hr3 HDV
              refine hK.out _ _ hP (fun hHeld => ?_)
              clear hK K
              refine wpAnyH_take (i := 6) (v := ?_) (List.getElem?_toArray.trans rfl) (by kernel_rfl) (by kernel_rfl) (by kernel_rfl) (fun _ _ _ h => h) (Or.inl ⟨by rfl, ?_⟩) (by assumption) ?_
              case refine_2 => (intro w hSw; (try dsimp only at hSw); clear hSw; go_simp <;> with_reducible rfl)
              simp only [Act.put, List.setIfInBounds_toArray, List.set_cons_zero, List.set_cons_succ]
              refine wpAnyH_take (i := 7) (v := ?_) (List.getElem?_toArray.trans rfl) (by kernel_rfl) (by kernel_rfl) (by kernel_rfl) (fun _ _ _ h => h) (Or.inl ⟨by rfl, ?_⟩) (by assumption) ?_
              case refine_2 => (intro w hSw; (try dsimp only at hSw); clear hSw; go_simp <;> with_reducible rfl)
              simp only [Act.put, List.setIfInBounds_toArray, List.set_cons_zero, List.set_cons_succ]
              refine wpAnyH_take (i := 8) (v := ?_) (List.getElem?_toArray.trans rfl) (by kernel_rfl) (by kernel_rfl) (by kernel_rfl) (fun _ _ _ h => h) (Or.inl ⟨by rfl, ?_⟩) (by assumption) ?_
              case refine_2 => (intro w hSw; (try dsimp only at hSw); clear hSw; go_simp <;> with_reducible rfl)
              simp only [Act.put, List.setIfInBounds_toArray, List.set_cons_zero, List.set_cons_succ]
              refine wpAnyH_ready (rs := [10]) (by kernel_rfl) (by simp) ?_
              refine AllReadyH.cons (List.getElem?_toArray.trans rfl) (fun K hK => ?_) AllReadyH.nil
              rw [if_pos (by rfl)]; refine wp_store_mid 35 (.tmp 11) (.tmp 42) (by rfl) _ 0 cs3.toArray (by rfl) (by rfl) (HZB.out.there (by rw [ixP_length]; simpa using (ixPrg.len HR3.out).symm)) (by rw [show cs3.toArray.size = 176 by simpa using ixPrg.len HR3.out]; exact ixPrg.size) (all_oneCell_toArray (ixPrg.one HR3.out)) ?_; rw [List.toList_toArray]; have HEND := Lib.hid (pair_put HZB.out HR3.out HNE.out HX3.out HNR.out HB0.out HBZ.out); have hP := HPS.out _ HEND.out.2; generalize wc.setCells bz 0 cs3 = wc at *
              refine hK.out _ _ hP (fun hHeld => ?_)
              clear hK K
              refine wpAnyH_take (i := 11) (v := ?_) (List.getElem?_toArray.trans rfl) (by kernel_rfl) (by kernel_rfl) (by kernel_rfl) (fun _ _ _ h => h) (Or.inl ⟨by rfl, ?_⟩) (by assumption) ?_
              case refine_2 => (intro w hSw; (try dsimp only at hSw); clear hSw; go_simp <;> with_reducible rfl)
              simp only [Act.put, List.setIfInBounds_toArray, List.set_cons_zero, List.set_cons_succ]
              refine wpAnyH_done (by kernel_rfl) ?_ _
              refine NoPanic.normal ?_
              go_wp2_with fail
              go_meet
              exact ⟨bz, rb3, cs3, own3, rfl, rfl, HEND⟩
      case rest =>
        obtain ⟨b3, rb3, cs3, own3, rfl, rfl, HE3⟩ := hcut
        obtain ⟨w7, rfl⟩ : ∃ w7, w7 = wc := ⟨_, rfl⟩
        have hb57 := HE3.out.2
        have HP3 : Hid (∀ W, Below w7.heap.size w7 W → Pair b3 rb3 cs3 own3 (Ix.made (L ++ [d])) W) := Lib.hid fun W h => HE3.out.1.on h
        have HP1B : Hid (∀ W, Below w7.heap.size w7 W → Pair b1 rb1 cs1 own1 S1 W) := Lib.hid fun W h => HP1A.out _ (hb57.trans (h.mono hb57.size))
        have HP2B : Hid (∀ W, Below w7.heap.size w7 W → Pair b2 rb2 cs2 own2 S2 W) := Lib.hid fun W h => HP2.out _ (hb57.trans (h.mono hb57.size))
        have HB7 : Hid (Below w.heap.size w w7) := Lib.hid (HB5.out.trans (hb57.mono HB5.out.size))
        have HD7 := Lib.hid ((hb57.block _ (Array.getElem?_eq_some_iff.1 HD5.out).1).trans HD5.out)
        clear HPS HAW HB0 hP HP1A HP2 HE3 hb57
        have HPS : Hid (∀ W, Below w7.heap.size w7 W → W.rangeAt w.heap.size 0 dc) := Lib.hid fun W h j v hj => by
          rw [Nat.zero_add, cells_at ((h.block _ (Array.getElem?_eq_some_iff.1 HD7.out).1).trans HD7.out)]
          exact hj
        have HAW : Hid (∀ W, Below w7.heap.size w7 W → Vs W w.heap.size A (n * 9) (ddV L)) := Lib.hid fun W h => Vs.below HL.out (HB7.out.trans (h.mono HB7.out.size))
        obtain ⟨d2, hd2⟩ : ∃ d2, d2 = dc ++ dc := ⟨_, rfl⟩
        have HD2 := Lib.hid hd2
        have HCL2 : Hid (d2.length = 2 * 9) := Lib.hid (by rw [hd2, List.length_append, HCL.out])
        have HONE2 : Hid (∀ u ∈ d2, u.oneCell' = true) := Lib.hid fun u hu => by
          rw [hd2] at hu
          rcases List.mem_append.1 hu with hu | hu <;> exact HONE.out u hu
        have HDC2 : Hid (d2 = ddV [d, d]) := Lib.hid (by rw [hd2, HDC.out, ddV_append]; rfl)
        clear hd2
        have HB0 := Lib.hid (Below.refl w7.heap.size w7).drew
        have hP := HPS.out _ HB0.out
        go_upto_region 8 with fail
      -- region 8
        go_cut [13, 14] from 44 to 54 (fun sa sb wx => ∃ (b3 rb3 : Nat) (cs3 : List Value) (own3 : Nat → Prop), sa = .pointer (some ⟨b3, 0, none⟩) ∧ sb = .pointer (some ⟨rb3, 0, none⟩) ∧ Hid (Pair b3 rb3 cs3 own3 (Ix.made (L ++ [d, d])) wx ∧ Below w7.heap.size w7 wx))
        case first =>
          as_aux_lemma =>
            refine wp_region_noPanic ?_
            refine wp_region_held_drew (S := (fun W => W.rangeAt w.heap.size 0 dc)) (by kernel_rfl) hP (fun hHeld => ?_)
            generalize w7.drew = wc at *
            refine wpAnyH_take (i := 0) (v := ?_) (List.getElem?_toArray.trans rfl) (by kernel_rfl) (by kernel_rfl) (by kernel_rfl) (fun _ _ _ h => h) (Or.inl ⟨by rfl, ?_⟩) (by assumption) ?_
            case refine_2 => (intro w hSw; (try dsimp only at hSw); clear hSw; go_simp <;> with_reducible rfl)
            simp only [Act.put, List.setIfInBounds_toArray, List.set_cons_zero, List.set_cons_succ]
            refine wpAnyH_take (i := 2) (v := .agg dc.toArray) (List.getElem?_toArray.trans rfl) (by kernel_rfl) (by kernel_rfl) (by kernel_rfl) (fun _ _ _ h => h) ?_ (by assumption) ?_
            · exact yieldsIf_load_mid (by rfl) 52 _ (by rfl) w.heap.size 0 (by rfl) dc _ (fun _ h => h) Tryd.underlying52 (by rfl) HINF.out
            simp only [Act.put, List.setIfInBounds_toArray, List.set_cons_zero, List.set_cons_succ]
            refine wpAnyH_take (i := 3) (v := .agg dc.toArray) (List.getElem?_toArray.trans rfl) (by kernel_rfl) (by kernel_rfl) (by kernel_rfl) (fun _ _ _ h => h) ?_ (by assumption) ?_
            · exact yieldsIf_load_mid (by rfl) 52 _ (by rfl) w.heap.size 0 (by rfl) dc _ (fun _ h => h) Tryd.underlying52 (by rfl) HINF.out
            simp only [Act.put, List.setIfInBounds_toArray, List.set_cons_zero, List.set_cons_succ]
            refine wpAnyH_ready (rs := [1, 4, 10]) (by kernel_rfl) (by simp) ?_
            refine AllReadyH.cons (List.getElem?_toArray.trans rfl) (fun K hK => ?_) (AllReadyH.cons (List.getElem?_toArray.trans rfl) (fun K hK => ?_) (AllReadyH.cons (List.getElem?_toArray.trans rfl) (fun K hK => ?_) AllReadyH.nil))
            · refine step_append_rows (by rfl) _ _ _ (by rfl) w7.heap.size 52 i0 zz 9 80 Tryd.underlying22 HI0.out HZ0.out HSI.out HBI.out HZC.out (by omega) (.slice none 0 0) 0 [] (by rfl) (World.ownsRow_nil _ _ _ _) w.heap.size A n c (ddV L) (by rfl) (HAW.out _ HB0.out) (ddV_one L) n (Nat.zero_add n) (ddV L) (List.nil_append _) (by have := HN.out; omega) (by have := HN.out; omega) HB0.out.size ?_; intro A1 k1 wc ho1 hg1; have hbn := (Below.refl _ _).grown hg1 (Nat.le_refl _) (by simp [Value.ownBlock]); replace HB0 := Lib.hid (HB0.out.trans (hbn.mono HB0.out.size)); have hP := HPS.out _ HB0.out; (try replace HO1 := Lib.hid (own_belowN HO1.out hbn)); (try replace HVB := Lib.hid ((Vs.below HVB.out hbn).mono hbn.size)); (try replace HDV := Lib.hid (show Dv _ _ _ _ _ from (Vs.below HDV.out hbn).mono hbn.size)); (try replace HZB := Lib.hid (HZB.out.below hbn)); (try replace HR3 := Lib.hid (ixPrg.on HR3.out hbn)); (try replace HX3 := Lib.hid (HX3.out.below hbn)); have HO1 := Lib.hid ho1; clear hbn ho1 hg1
              refine hK.out _ _ hP (fun hHeld => ?_)
              clear hK K
              refine wpAnyH_ready (rs := [4, 10]) (by kernel_rfl) (by simp) ?_
              refine AllReadyH.cons (List.getElem?_toArray.trans rfl) (fun K hK => ?_) (AllReadyH.cons (List.getElem?_toArray.trans rfl) (fun K hK => ?_) AllReadyH.nil)
              · go_simp; rw [build_eighteen HDC0.out HD2.out]; go_simp; have hbn := (Below.refl wc.heap.size wc).alloc (Nat.le_refl _) (.cells d2.toArray 52); have hvb := (Vs.new wc 52 (0, 0) d2.toArray).mono (B' := (wc.alloc (.cells d2.toArray 52)).heap.size) (by simp); replace HB0 := Lib.hid (HB0.out.trans (hbn.mono HB0.out.size)); have hP := HPS.out _ HB0.out; (try replace HO1 := Lib.hid (own_belowN HO1.out hbn)); (try replace HVB := Lib.hid ((Vs.below HVB.out hbn).mono hbn.size)); (try replace HDV := Lib.hid (show Dv _ _ _ _ _ from (Vs.below HDV.out hbn).mono hbn.size)); (try replace HZB := Lib.hid (HZB.out.below hbn)); (try replace HR3 := Lib.hid (ixPrg.on HR3.out hbn)); (try replace HX3 := Lib.hid (HX3.out.below hbn)); have HVB := Lib.hid hvb; clear hbn hvb; generalize wc.alloc (.cells d2.toArray 52) = wc at *
                refine hK.out _ _ hP (fun hHeld => ?_)
                clear hK K
                refine wpAnyH_ready (rs := [5, 10]) (by kernel_rfl) (by simp) ?_
                refine AllReadyH.cons (List.getElem?_toArray.trans rfl) (fun K hK => ?_) (AllReadyH.cons (List.getElem?_toArray.trans rfl) (fun K hK => ?_) AllReadyH.nil)
                · refine step_append_rows (by rfl) _ _ _ (by rfl) w7.heap.size 52 i0 zz 9 80 Tryd.underlying22 HI0.out HZ0.out HSI.out HBI.out HZC.out (by omega) (.slice A1 n k1) n (ddV L) (by rfl) HO1.out _ _ 2 2 d2 (by rfl) (by rw [show 2 * 9 = d2.length from HCL2.out.symm]; simpa using HVB.out) HONE2.out (n + 2) rfl (ddV (L ++ [d, d])) (by rw [HDC2.out, ← ddV_append]) (by have := HN.out; omega) (by have := HN.out; omega) HB0.out.size ?_; intro A2 k2 wc ho2 hg2; have hbo := HB0.out.grown hg2 HB0.out.size (fun q hq => (HO1.out.lt q hq).1); replace HB0 := Lib.hid hbo; have hP := HPS.out _ HB0.out; have HDV := Lib.hid (dv_of_own ho2); (try replace HZB := Lib.hid (zb_kept HZB.out hg2 HO1.out)); clear HO1 HVB hbo hg2 ho2
                  refine hK.out _ _ hP (fun hHeld => ?_)
                  clear hK K
                  refine wpAnyH_ready (rs := [6, 10]) (by kernel_rfl) (by simp) ?_
                  refine AllReadyH.cons (List.getElem?_toArray.trans rfl) (fun K hK => ?_) (AllReadyH.cons (List.getElem?_toArray.trans rfl) (fun K hK => ?_) AllReadyH.nil)
                  · go_simp
                    go_at_call 6; (with_reducible refine (made_any ixPrg HZR.out (ixP_length _ _) A2 (n + 2) k2 (L ++ [d, d]) wc HDV.out (by have := HN.out; omega)).mono ?_); rintro e wc ⟨cs3, own3, rb3, rfl, hR3, ho3, hx3, hr3, hbn⟩; (try have HNE := Lib.hid (fun i hi => Nat.ne_of_gt (Nat.lt_of_lt_of_le HZB.out.lt (ho3 i hi).1))); (try have HNR : Hid (rb3 ≠ bz) := Lib.hid (Nat.ne_of_gt (Nat.lt_of_lt_of_le HZB.out.lt hr3))); replace HB0 := Lib.hid (HB0.out.trans (hbn.mono HB0.out.size)); have hP := HPS.out _ HB0.out; (try replace HO1 := Lib.hid (own_belowN HO1.out hbn)); (try replace HVB := Lib.hid ((Vs.below HVB.out hbn).mono hbn.size)); (try replace HDV := Lib.hid (show Dv _ _ _ _ _ from (Vs.below HDV.out hbn).mono hbn.size)); (try replace HZB := Lib.hid (HZB.out.below hbn)); (try replace HR3 := Lib.hid (ixPrg.on HR3.out hbn)); (try replace HX3 := Lib.hid (HX3.out.below hbn)); have HR3 := Lib.hid hR3; have HX3 := Lib.hid hx3; clear hbn hR3 ho3 hx3 hr3 HDV
                    refine hK.out _ _ hP (fun hHeld => ?_)
                    clear hK K
                    refine wpAnyH_take (i := 7) (v := ?_) (List.getElem?_toArray.trans rfl) (by kernel_rfl) (by kernel_rfl) (by kernel_rfl) (fun _ _ _ h => h) (Or.inl ⟨by rfl, ?_⟩) (by assumption) ?_
                    case refine_2 => (intro w hSw; (try dsimp only at hSw); clear hSw; go_simp <;> with_reducible rfl)
                    simp only [Act.put, List.setIfInBounds_toArray, List.set_cons_zero, List.set_cons_succ]
                    refine wpAnyH_take (i := 8) (v := ?_) (List.getElem?_toArray.trans rfl) (by kernel_rfl) (by kernel_rfl) (by kernel_rfl) (fun _ _ _ h => h) (Or.inl ⟨by rfl, ?_⟩) (by assumption) ?_
                    case refine_2 => (intro w hSw; (try dsimp only at hSw); clear hSw; go_simp <;> with_reducible rfl)
                    simp only [Act.put, List.setIfInBounds_toArray, List.set_cons_zero, List.set_cons_succ]
                    refine wpAnyH_take (i := 9) (v := ?_) (List.getElem?_toArray.trans rfl) (by kernel_rfl) (by kernel_rfl) (by kernel_rfl) (fun _ _ _ h => h) (Or.inl ⟨by rfl, ?_⟩) (by assumption) ?_
                    case refine_2 => (intro w hSw; (try dsimp only at hSw); clear hSw; go_simp <;> with_reducible rfl)
                    simp only [Act.put, List.setIfInBounds_toArray, List.set_cons_zero, List.set_cons_succ]
                    refine wpAnyH_ready (rs := [10]) (by kernel_rfl) (by simp) ?_
                    refine AllReadyH.cons (List.getElem?_toArray.trans rfl) (fun K hK => ?_) AllReadyH.nil
                    go_simp; obtain ⟨bz, hbz⟩ : ∃ bz, bz = wc.heap.size := ⟨_, rfl⟩; rw [← hbz]; have hbn := (Below.refl wc.heap.size wc).alloc (Nat.le_refl _) (.cells zP.toArray 35); have hzb : IxBox (wc.alloc (.cells zP.toArray 35)) bz zP := (by rw [hbz]; exact IxBox.new wc zP); (try have HNE : Hid (∀ i, own3 i → i ≠ bz) := Lib.hid fun i hi => Nat.ne_of_lt (by rw [hbz]; exact ixPrg.lt HR3.out hi)); (try have HNR : Hid (rb3 ≠ bz) := Lib.hid (Nat.ne_of_lt (by rw [hbz]; exact HX3.out.lt))); have HBZ := Lib.hid (show w7.heap.size ≤ bz by rw [hbz]; exact HB0.out.size); replace HB0 := Lib.hid (HB0.out.trans (hbn.mono HB0.out.size)); have hP := HPS.out _ HB0.out; (try replace HO1 := Lib.hid (own_belowN HO1.out hbn)); (try replace HVB := Lib.hid ((Vs.below HVB.out hbn).mono hbn.size)); (try replace HDV := Lib.hid (show Dv _ _ _ _ _ from (Vs.below HDV.out hbn).mono hbn.size)); (try replace HZB := Lib.hid (HZB.out.below hbn)); (try replace HR3 := Lib.hid (ixPrg.on HR3.out hbn)); (try replace HX3 := Lib.hid (HX3.out.below hbn)); have HZB := Lib.hid hzb; clear hbn hzb hbz; generalize wc.alloc (.cells zP.toArray 35) = wc at *
                    refine hK.out _ _ hP (fun hHeld => ?_)
                    clear hK K
                    refine wpAnyH_ready (rs := [11]) (by kernel_rfl) (by simp) ?_
                    refine AllReadyH.cons (List.getElem?_toArray.trans rfl) (fun K hK => ?_) AllReadyH.nil
                    rw [if_pos (by rfl)]; refine wp_store_mid 35 (.tmp 13) (.tmp 52) (by rfl) _ 0 cs3.toArray (by rfl) (by rfl) (HZB.out.there (by rw [ixP_length]; simpa using (ixPrg.len HR3.out).symm)) (by rw [show cs3.toArray.size = 176 by simpa using ixPrg.len HR3.out]; exact ixPrg.size) (all_oneCell_toArray (ixPrg.one HR3.out)) ?_; rw [List.toList_toArray]; have HEND := Lib.hid (pair_put HZB.out HR3.out HNE.out HX3.out HNR.out HB0.out HBZ.out); have hP := HPS.out _ HEND.out.2; generalize wc.setCells bz 0 cs3 = wc at *
                    refine hK.out _ _ hP (fun hHeld => ?_)
                    clear hK K
                    refine wpAnyH_take (i := 12) (v := ?_) (List.getElem?_toArray.trans rfl) (by kernel_rfl) (by kernel_rfl) (by kernel_rfl) (fun _ _ _ h => h) (Or.inl ⟨by rfl, ?_⟩) (by assumption) ?_
                    case refine_2 => (intro w hSw; (try dsimp only at hSw); clear hSw; go_simp <;> with_reducible rfl)
                    simp only [Act.put, List.setIfInBounds_toArray, List.set_cons_zero, List.set_cons_succ]
                    refine wpAnyH_done (by kernel_rfl) ?_ _
                    refine NoPanic.normal ?_
                    go_wp2_with fail
                    go_meet
                    exact ⟨bz, rb3, cs3, own3, rfl, rfl, HEND⟩
                  · go_simp; obtain ⟨bz, hbz⟩ : ∃ bz, bz = wc.heap.size := ⟨_, rfl⟩; rw [← hbz]; have hbn := (Below.refl wc.heap.size wc).alloc (Nat.le_refl _) (.cells zP.toArray 35); have hzb : IxBox (wc.alloc (.cells zP.toArray 35)) bz zP := (by rw [hbz]; exact IxBox.new wc zP); (try have HNE : Hid (∀ i, own3 i → i ≠ bz) := Lib.hid fun i hi => Nat.ne_of_lt (by rw [hbz]; exact ixPrg.lt HR3.out hi)); (try have HNR : Hid (rb3 ≠ bz) := Lib.hid (Nat.ne_of_lt (by rw [hbz]; exact HX3.out.lt))); have HBZ := Lib.hid (show w7.heap.size ≤ bz by rw [hbz]; exact HB0.out.size); replace HB0 := Lib.hid (HB0.out.trans (hbn.mono HB0.out.size)); have hP := HPS.out _ HB0.out; (try replace HO1 := Lib.hid (own_belowN HO1.out hbn)); (try replace HVB := Lib.hid ((Vs.below HVB.out hbn).mono hbn.size)); (try replace HDV := Lib.hid (show Dv _ _ _ _ _ from (Vs.below HDV.out hbn).mono hbn.size)); (try replace HZB := Lib.hid (HZB.out.below hbn)); (try replace HR3 := Lib.hid (ixPrg.on HR3.out hbn)); (try replace HX3 := Lib.hid (HX3.out.below hbn)); have HZB := Lib.hid hzb; clear hbn hzb hbz; generalize wc.alloc (.cells zP.toArray 35) = wc at *
                    refine hK.out _ _ hP (fun hHeld => ?_)
                    clear hK K
                    refine wpAnyH_ready (rs := [6]) (by kernel_rfl) (by simp) ?_
                    refine AllReadyH.cons (List.getElem?_toArray.trans rfl) (fun K hK => ?_) AllReadyH.nil
                    go_simp
                    go_at_call 6; (with_reducible refine (made_any ixPrg HZR.out (ixP_length _ _) A2 (n + 2) k2 (L ++ [d, d]) wc HDV.out (by have := HN.out; omega)).mono ?_); rintro e wc ⟨cs3, own3, rb3, rfl, hR3, ho3, hx3, hr3, hbn⟩; (try have HNE := Lib.hid (fun i hi => Nat.ne_of_gt (Nat.lt_of_lt_of_le HZB.out.lt (ho3 i hi).1))); (try have HNR : Hid (rb3 ≠ bz) := Lib.hid (Nat.ne_of_gt (Nat.lt_of_lt_of_le HZB.out.lt hr3))); replace HB0 := Lib.hid (HB0.out.trans (hbn.mono HB0.out.size)); have hP := HPS.out _ HB0.out; (try replace HO1 := Lib.hid (own_belowN HO1.out hbn)); (try replace HVB := Lib.hid ((Vs.below HVB.out hbn).mono hbn.size)); (try replace HDV := Lib.hid (show Dv _ _ _ _ _ from (Vs.below HDV.out hbn).mono hbn.size)); (try replace HZB := Lib.hid (HZB.out.below hbn)); (try replace HR3 := Lib.hid (ixPrg.on HR3.out hbn)); (try replace HX3 := Lib.hid (HX3.out.below hbn)); have HR3 := Lib.hid hR3; have HX3 := Lib.hid hx3; clear hbn hR3 ho3 hx3 hr3 HDV
                    refine hK.out _ _ hP (fun hHeld => ?_)
                    clear hK K
                    refine wpAnyH_take (i := 7) (v := ?_) (List.getElem?_toArray.trans rfl) (by kernel_rfl) (by kernel_rfl) (by kernel_rfl) (fun _ _ _ h => h) (Or.inl ⟨by rfl, ?_⟩) (by assumption) ?_
                    case refine_2 => (intro w hSw; (try dsimp only at hSw); clear hSw; go_simp <;> with_reducible rfl)
                    simp only [Act.put, List.setIfInBounds_toArray, List.set_cons_zero, List.set_cons_succ]
                    refine wpAnyH_take (i := 8) (v := ?_) (List.getElem?_toArray.trans rfl) (by kernel_rfl) (by kernel_rfl) (by kernel_rfl) (fun _ _ _ h => h) (Or.inl ⟨by rfl, ?_⟩) (by assumption) ?_
                    case refine_2 => (intro w hSw; (try dsimp only at hSw); clear hSw; go_simp <;> with_reducible rfl)
                    simp only [Act.put, List.setIfInBounds_toArray, List.set_cons_zero, List.set_cons_succ]
                    refine wpAnyH_take (i := 9) (v := ?_) (List.getElem?_toArray.trans rfl) (by kernel_rfl) (by kernel_rfl) (by kernel_rfl) (fun _ _ _ h => h) (Or.inl ⟨by rfl, ?_⟩) (by assumption) ?_
                    case refine_2 => (intro w hSw; (try dsimp only at hSw); clear hSw; go_simp <;> with_reducible rfl)
                    simp only [Act.put, List.setIfInBounds_toArray, List.set_cons_zero, List.set_cons_succ]
                    refine wpAnyH_ready (rs := [11]) (by kernel_rfl) (by simp) ?_
                    refine AllReadyH.cons (List.getElem?_toArray.trans rfl) (fun K hK => ?_) AllReadyH.nil
                    rw [if_pos (by rfl)]; refine wp_store_mid 35 (.tmp 13) (.tmp 52) (by rfl) _ 0 cs3.toArray (by rfl) (by rfl) (HZB.out.there (by rw [ixP_length]; simpa using (ixPrg.len HR3.out).symm)) (by rw [show cs3.toArray.size = 176 by simpa using ixPrg.len HR3.out]; exact ixPrg.size) (all_oneCell_toArray (ixPrg.one HR3.out)) ?_; rw [List.toList_toArray]; have HEND := Lib.hid (pair_put HZB.out HR3.out HNE.out HX3.out HNR.out HB0.out HBZ.out); have hP := HPS.out _ HEND.out.2; generalize wc.setCells bz 0 cs3 = wc at *
                    refine hK.out _ _ hP (fun hHeld => ?_)
                    clear hK K
                    refine wpAnyH_take (i := 12) (v := ?_) (List.getElem?_toArray.trans rfl) (by kernel_rfl) (by kernel_rfl) (by kernel_rfl) (fun _ _ _ h => h) (Or.inl ⟨by rfl, ?_⟩) (by assumption) ?_
                    case refine_2 => (intro w hSw; (try dsimp only at hSw); clear hSw; go_simp <;> with_reducible rfl)
                    simp only [Act.put, List.setIfInBounds_toArray, List.set_cons_zero, List.set_cons_succ]
                    refine wpAnyH_done (by kernel_rfl) ?_ _
                    refine NoPanic.normal ?_
                    go_wp2_with fail
                    go_meet
                    exact ⟨bz, rb3, cs3, own3, rfl, rfl, HEND⟩
                · go_simp; obtain ⟨bz, hbz⟩ : ∃ bz, bz = wc.heap.size := ⟨_, rfl⟩; rw [← hbz]; have hbn := (Below.refl wc.heap.size wc).alloc (Nat.le_refl _) (.cells zP.toArray 35); have hzb : IxBox (wc.alloc (.cells zP.toArray 35)) bz zP := (by rw [hbz]; exact IxBox.new wc zP); (try have HNE : Hid (∀ i, own3 i → i ≠ bz) := Lib.hid fun i hi => Nat.ne_of_lt (by rw [hbz]; exact ixPrg.lt HR3.out hi)); (try have HNR : Hid (rb3 ≠ bz) := Lib.hid (Nat.ne_of_lt (by rw [hbz]; exact HX3.out.lt))); have HBZ := Lib.hid (show w7.heap.size ≤ bz by rw [hbz]; exact HB0.out.size); replace HB0 := Lib.hid (HB0.out.trans (hbn.mono HB0.out.size)); have hP := HPS.out _ HB0.out; (try replace HO1 := Lib.hid (own_belowN HO1.out hbn)); (try replace HVB := Lib.hid ((Vs.below HVB.out hbn).mono hbn.size)); (try replace HDV := Lib.hid (show Dv _ _ _ _ _ from (Vs.below HDV.out hbn).mono hbn.size)); (try replace HZB := Lib.hid (HZB.out.below hbn)); (try replace HR3 := Lib.hid (ixPrg.on HR3.out hbn)); (try replace HX3 := Lib.hid (HX3.out.below hbn)); have HZB := Lib.hid hzb; clear hbn hzb hbz; generalize wc.alloc (.cells zP.toArray 35) = wc at *
                  refine hK.out _ _ hP (fun hHeld => ?_)
                  clear hK K
                  refine wpAnyH_ready (rs := [5]) (by kernel_rfl) (by simp) ?_
                  refine AllReadyH.cons (List.getElem?_toArray.trans rfl) (fun K hK => ?_) AllReadyH.nil
                  refine step_append_rows (by rfl) _ _ _ (by rfl) w7.heap.size 52 i0 zz 9 80 Tryd.underlying22 HI0.out HZ0.out HSI.out HBI.out HZC.out (by omega) (.slice A1 n k1) n (ddV L) (by rfl) HO1.out _ _ 2 2 d2 (by rfl) (by rw [show 2 * 9 = d2.length from HCL2.out.symm]; simpa using HVB.out) HONE2.out (n + 2) rfl (ddV (L ++ [d, d])) (by rw [HDC2.out, ← ddV_append]) (by have := HN.out; omega) (by have := HN.out; omega) HB0.out.size ?_; intro A2 k2 wc ho2 hg2; have hbo := HB0.out.grown hg2 HB0.out.size (fun q hq => (HO1.out.lt q hq).1); replace HB0 := Lib.hid hbo; have hP := HPS.out _ HB0.out; have HDV := Lib.hid (dv_of_own ho2); (try replace HZB := Lib.hid (zb_kept HZB.out hg2 HO1.out)); clear HO1 HVB hbo hg2 ho2
                  refine hK.out _ _ hP (fun hHeld => ?_)
                  clear hK K
                  refine wpAnyH_ready (rs := [6]) (by kernel_rfl) (by simp) ?_
                  refine AllReadyH.cons (List.getElem?_toArray.trans rfl) (fun K hK => ?_) AllReadyH.nil
                  go_simp
                  go_at_call 6; (with_reducible refine (made_any ixPrg HZR.out (ixP_length _ _) A2 (n + 2) k2 (L ++ [d, d]) wc HDV.out (by have := HN.out; omega)).mono ?_); rintro e wc ⟨cs3, own3, rb3, rfl, hR3, ho3, hx3, hr3, hbn⟩; (try have HNE := Lib.hid (fun i hi => Nat.ne_of_gt (Nat.lt_of_lt_of_le HZB.out.lt (ho3 i hi).1))); (try have HNR : Hid (rb3 ≠ bz) := Lib.hid (Nat.ne_of_gt (Nat.lt_of_lt_of_le HZB.out.lt hr3))); replace HB0 := Lib.hid (HB0.out.trans (hbn.mono HB0.out.size)); have hP := HPS.out _ HB0.out; (try replace HO1 := Lib.hid (own_belowN HO1.out hbn)); (try replace HVB := Lib.hid ((Vs.below HVB.out hbn).mono hbn.size)); (try replace HDV := Lib.hid (show Dv _ _ _ _ _ from (Vs.below HDV.out hbn).mono hbn.size)); (try replace HZB := Lib.hid (HZB.out.below hbn)); (try replace HR3 := Lib.hid (ixPrg.on HR3.out hbn)); (try replace HX3 := Lib.hid (HX3.out.below hbn)); have HR3 := Lib.hid hR3; have HX3 := Lib.hid hx3; clear hbn hR3 ho3 hx3 hr3 HDV
                  refine hK.out _ _ hP (fun hHeld => ?_)
                  clear hK K
                  refine wpAnyH_take (i := 7) (v := ?_) (List.getElem?_toArray.trans rfl) (by kernel_rfl) (by kernel_rfl) (by kernel_rfl) (fun _ _ _ h => h) (Or.inl ⟨by rfl, ?_⟩) (by assumption) ?_
                  case refine_2 => (intro w hSw; (try dsimp only at hSw); clear hSw; go_simp <;> with_reducible rfl)
                  simp only [Act.put, List.setIfInBounds_toArray, List.set_cons_zero, List.set_cons_succ]
                  refine wpAnyH_take (i := 8) (v := ?_) (List.getElem?_toArray.trans rfl) (by kernel_rfl) (by kernel_rfl) (by kernel_rfl) (fun _ _ _ h => h) (Or.inl ⟨by rfl, ?_⟩) (by assumption) ?_
                  case refine_2 => (intro w hSw; (try dsimp only at hSw); clear hSw; go_simp <;> with_reducible rfl)
                  simp only [Act.put, List.setIfInBounds_toArray, List.set_cons_zero, List.set_cons_succ]
                  refine wpAnyH_take (i := 9) (v := ?_) (List.getElem?_toArray.trans rfl) (by kernel_rfl) (by kernel_rfl) (by kernel_rfl) (fun _ _ _ h => h) (Or.inl ⟨by rfl, ?_⟩) (by assumption) ?_
                  case refine_2 => (intro w hSw; (try dsimp only at hSw); clear hSw; go_simp <;> with_reducible rfl)
                  simp only [Act.put, List.setIfInBounds_toArray, List.set_cons_zero, List.set_cons_succ]
                  refine wpAnyH_ready (rs := [11]) (by kernel_rfl) (by simp) ?_
                  refine AllReadyH.cons (List.getElem?_toArray.trans rfl) (fun K hK => ?_) AllReadyH.nil
                  rw [if_pos (by rfl)]; refine wp_store_mid 35 (.tmp 13) (.tmp 52) (by rfl) _ 0 cs3.toArray (by rfl) (by rfl) (HZB.out.there (by rw [ixP_length]; simpa using (ixPrg.len HR3.out).symm)) (by rw [show cs3.toArray.size = 176 by simpa using ixPrg.len HR3.out]; exact ixPrg.size) (all_oneCell_toArray (ixPrg.one HR3.out)) ?_; rw [List.toList_toArray]; have HEND := Lib.hid (pair_put HZB.out HR3.out HNE.out HX3.out HNR.out HB0.out HBZ.out); have hP := HPS.out _ HEND.out.2; generalize wc.setCells bz 0 cs3 = wc at *
                  refine hK.out _ _ hP (fun hHeld => ?_)
                  clear hK K
                  refine wpAnyH_take (i := 12) (v := ?_) (List.getElem?_toArray.trans rfl) (by kernel_rfl) (by kernel_rfl) (by kernel_rfl) (fun _ _ _ h => h) (Or.inl ⟨by rfl, ?_⟩) (by assumption) ?_
                  case refine_2 => (intro w hSw; (try dsimp only at hSw); clear hSw; go_simp <;> with_reducible rfl)
                  simp only [Act.put, List.setIfInBounds_toArray, List.set_cons_zero, List.set_cons_succ]
                  refine wpAnyH_done (by kernel_rfl) ?_ _
                  refine NoPanic.normal ?_
                  go_wp2_with fail
                  go_meet
                  exact ⟨bz, rb3, cs3, own3, rfl, rfl, HEND⟩
              · go_simp; obtain ⟨bz, hbz⟩ : ∃ bz, bz = wc.heap.size := ⟨_, rfl⟩; rw [← hbz]; have hbn := (Below.refl wc.heap.size wc).alloc (Nat.le_refl _) (.cells zP.toArray 35); have hzb : IxBox (wc.alloc (.cells zP.toArray 35)) bz zP := (by rw [hbz]; exact IxBox.new wc zP); (try have HNE : Hid (∀ i, own3 i → i ≠ bz) := Lib.hid fun i hi => Nat.ne_of_lt (by rw [hbz]; exact ixPrg.lt HR3.out hi)); (try have HNR : Hid (rb3 ≠ bz) := Lib.hid (Nat.ne_of_lt (by rw [hbz]; exact HX3.out.lt))); have HBZ := Lib.hid (show w7.heap.size ≤ bz by rw [hbz]; exact HB0.out.size); replace HB0 := Lib.hid (HB0.out.trans (hbn.mono HB0.out.size)); have hP := HPS.out _ HB0.out; (try replace HO1 := Lib.hid (own_belowN HO1.out hbn)); (try replace HVB := Lib.hid ((Vs.below HVB.out hbn).mono hbn.size)); (try replace HDV := Lib.hid (show Dv _ _ _ _ _ from (Vs.below HDV.out hbn).mono hbn.size)); (try replace HZB := Lib.hid (HZB.out.below hbn)); (try replace HR3 := Lib.hid (ixPrg.on HR3.out hbn)); (try replace HX3 := Lib.hid (HX3.out.below hbn)); have HZB := Lib.hid hzb; clear hbn hzb hbz; generalize wc.alloc (.cells zP.toArray 35) = wc at *
                refine hK.out _ _ hP (fun hHeld => ?_)
                clear hK K
                refine wpAnyH_ready (rs := [4]) (by kernel_rfl) (by simp) ?_
                refine AllReadyH.cons (List.getElem?_toArray.trans rfl) (fun K hK => ?_) AllReadyH.nil
                go_simp; rw [build_eighteen HDC0.out HD2.out]; go_simp; have hbn := (Below.refl wc.heap.size wc).alloc (Nat.le_refl _) (.cells d2.toArray 52); have hvb := (Vs.new wc 52 (0, 0) d2.toArray).mono (B' := (wc.alloc (.cells d2.toArray 52)).heap.size) (by simp); replace HB0 := Lib.hid (HB0.out.trans (hbn.mono HB0.out.size)); have hP := HPS.out _ HB0.out; (try replace HO1 := Lib.hid (own_belowN HO1.out hbn)); (try replace HVB := Lib.hid ((Vs.below HVB.out hbn).mono hbn.size)); (try replace HDV := Lib.hid (show Dv _ _ _ _ _ from (Vs.below HDV.out hbn).mono hbn.size)); (try replace HZB := Lib.hid (HZB.out.below hbn)); (try replace HR3 := Lib.hid (ixPrg.on HR3.out hbn)); (try replace HX3 := Lib.hid (HX3.out.below hbn)); have HVB := Lib.hid hvb; clear hbn hvb; generalize wc.alloc (.cells d2.toArray 52) = wc at *
                refine hK.out _ _ hP (fun hHeld => ?_)
                clear hK K
                refine wpAnyH_ready (rs := [5]) (by kernel_rfl) (by simp) ?_
                refine AllReadyH.cons (List.getElem?_toArray.trans rfl) (fun K hK => ?_) AllReadyH.nil
                refine step_append_rows (by rfl) _ _ _ (by rfl) w7.heap.size 52 i0 zz 9 80 Tryd.underlying22 HI0.out HZ0.out HSI.out HBI.out HZC.out (by omega) (.slice A1 n k1) n (ddV L) (by rfl) HO1.out _ _ 2 2 d2 (by rfl) (by rw [show 2 * 9 = d2.length from HCL2.out.symm]; simpa using HVB.out) HONE2.out (n + 2) rfl (ddV (L ++ [d, d])) (by rw [HDC2.out, ← ddV_append]) (by have := HN.out; omega) (by have := HN.out; omega) HB0.out.size ?_; intro A2 k2 wc ho2 hg2; have hbo := HB0.out.grown hg2 HB0.out.size (fun q hq => (HO1.out.lt q hq).1); replace HB0 := Lib.hid hbo; have hP := HPS.out _ HB0.out; have HDV := Lib.hid (dv_of_own ho2); (try replace HZB := Lib.hid (zb_kept HZB.out hg2 HO1.out)); clear HO1 HVB hbo hg2 ho2
                refine hK.out _ _ hP (fun hHeld => ?_)
                clear hK K
                refine wpAnyH_ready (rs := [6]) (by kernel_rfl) (by simp) ?_
                refine AllReadyH.cons (List.getElem?_toArray.trans rfl) (fun K hK => ?_) AllReadyH.nil
                go_simp
                go_at_call 6; (with_reducible refine (made_any ixPrg HZR.out (ixP_length _ _) A2 (n + 2) k2 (L ++ [d, d]) wc HDV.out (by have := HN.out; omega)).mono ?_); rintro e wc ⟨cs3, own3, rb3, rfl, hR3, ho3, hx3, hr3, hbn⟩; (try have HNE := Lib.hid (fun i hi => Nat.ne_of_gt (Nat.lt_of_lt_of_le HZB.out.lt (ho3 i hi).1))); (try have HNR : Hid (rb3 ≠ bz) := Lib.hid (Nat.ne_of_gt (Nat.lt_of_lt_of_le HZB.out.lt hr3))); replace HB0 := Lib.hid (HB0.out.trans (hbn.mono HB0.out.size)); have hP := HPS.out _ HB0.out; (try replace HO1 := Lib.hid (own_belowN HO1.out hbn)); (try replace HVB := Lib.hid ((Vs.below HVB.out hbn).mono hbn.size)); (try replace HDV := Lib.hid (show Dv _ _ _ _ _ from (Vs.below HDV.out hbn).mono hbn.size)); (try replace HZB := Lib.hid (HZB.out.below hbn)); (try replace HR3 := Lib.hid (ixPrg.on HR3.out hbn)); (try replace HX3 := Lib.hid (HX3.out.below hbn)); have HR3 := Lib.hid hR3; have HX3 := Lib.hid hx3; clear hbn hR3 ho3 hx3 hr3 HDV
                refine hK.out _ _ hP (fun hHeld => ?_)
                clear hK K
                refine wpAnyH_take (i := 7) (v := ?_) (List.getElem?_toArray.trans rfl) (by kernel_rfl) (by kernel_rfl) (by kernel_rfl) (fun _ _ _ h => h) (Or.inl ⟨by rfl, ?_⟩) (by assumption) ?_
                case refine_2 => (intro w hSw; (try dsimp only at hSw); clear hSw; go_simp <;> with_reducible rfl)
                simp only [Act.put, List.setIfInBounds_toArray, List.set_cons_zero, List.set_cons_succ]
                refine wpAnyH_take (i := 8) (v := ?_) (List.getElem?_toArray.trans rfl) (by kernel_rfl) (by kernel_rfl) (by kernel_rfl) (fun _ _ _ h => h) (Or.inl ⟨by rfl, ?_⟩) (by assumption) ?_
                case refine_2 => (intro w hSw; (try dsimp only at hSw); clear hSw; go_simp <;> with_reducible rfl)
                simp only [Act.put, List.setIfInBounds_toArray, List.set_cons_zero, List.set_cons_succ]
                refine wpAnyH_take (i := 9) (v := ?_) (List.getElem?_toArray.trans rfl) (by kernel_rfl) (by kernel_rfl) (by kernel_rfl) (fun _ _ _ h => h) (Or.inl ⟨by rfl, ?_⟩) (by assumption) ?_
                case refine_2 => (intro w hSw; (try dsimp only at hSw); clear hSw; go_simp <;> with_reducible rfl)
                simp only [Act.put, List.setIfInBounds_toArray, List.set_cons_zero, List.set_cons_succ]
                refine wpAnyH_ready (rs := [11]) (by kernel_rfl) (by simp) ?_
                refine AllReadyH.cons (List.getElem?_toArray.trans rfl) (fun K hK => ?_) AllReadyH.nil
                rw [if_pos (by rfl)]; refine wp_store_mid 35 (.tmp 13) (.tmp 52) (by rfl) _ 0 cs3.toArray (by rfl) (by rfl) (HZB.out.there (by rw [ixP_length]; simpa using (ixPrg.len HR3.out).symm)) (by rw [show cs3.toArray.size = 176 by simpa using ixPrg.len HR3.out]; exact ixPrg.size) (all_oneCell_toArray (ixPrg.one HR3.out)) ?_; rw [List.toList_toArray]; have HEND := Lib.hid (pair_put HZB.out HR3.out HNE.out HX3.out HNR.out HB0.out HBZ.out); have hP := HPS.out _ HEND.out.2; generalize wc.setCells bz 0 cs3 = wc at *
                refine hK.out _ _ hP (fun hHeld => ?_)
                clear hK K
                refine wpAnyH_take (i := 12) (v := ?_) (List.getElem?_toArray.trans rfl) (by kernel_rfl) (by kernel_rfl) (by kernel_rfl) (fun _ _ _ h => h) (Or.inl ⟨by rfl, ?_⟩) (by assumption) ?_
                case refine_2 => (intro w hSw; (try dsimp only at hSw); clear hSw; go_simp <;> with_reducible rfl)
                simp only [Act.put, List.setIfInBounds_toArray, List.set_cons_zero, List.set_cons_succ]
                refine wpAnyH_done (by kernel_rfl) ?_ _
                refine NoPanic.normal ?_
                go_wp2_with fail
                go_meet
                exact ⟨bz, rb3, cs3, own3, rfl, rfl, HEND⟩
            · go_simp; rw [build_eighteen HDC0.out HD2.out]; go_simp; have hbn := (Below.refl wc.heap.size wc).alloc (Nat.le_refl _) (.cells d2.toArray 52); have hvb := (Vs.new wc 52 (0, 0) d2.toArray).mono (B' := (wc.alloc (.cells d2.toArray 52)).heap.size) (by simp); replace HB0 := Lib.hid (HB0.out.trans (hbn.mono HB0.out.size)); have hP := HPS.out _ HB0.out; (try replace HO1 := Lib.hid (own_belowN HO1.out hbn)); (try replace HVB := Lib.hid ((Vs.below HVB.out hbn).mono hbn.size)); (try replace HDV := Lib.hid (show Dv _ _ _ _ _ from (Vs.below HDV.out hbn).mono hbn.size)); (try replace HZB := Lib.hid (HZB.out.below hbn)); (try replace HR3 := Lib.hid (ixPrg.on HR3.out hbn)); (try replace HX3 := Lib.hid (HX3.out.below hbn)); have HVB := Lib.hid hvb; clear hbn hvb; generalize wc.alloc (.cells d2.toArray 52) = wc at *
              refine hK.out _ _ hP (fun hHeld => ?_)
              clear hK K
              refine wpAnyH_ready (rs := [1, 10]) (by kernel_rfl) (by simp) ?_
              refine AllReadyH.cons (List.getElem?_toArray.trans rfl) (fun K hK => ?_) (AllReadyH.cons (List.getElem?_toArray.trans rfl) (fun K hK => ?_) AllReadyH.nil)
              · refine step_append_rows (by rfl) _ _ _ (by rfl) w7.heap.size 52 i0 zz 9 80 Tryd.underlying22 HI0.out HZ0.out HSI.out HBI.out HZC.out (by omega) (.slice none 0 0) 0 [] (by rfl) (World.ownsRow_nil _ _ _ _) w.heap.size A n c (ddV L) (by rfl) (HAW.out _ HB0.out) (ddV_one L) n (Nat.zero_add n) (ddV L) (List.nil_append _) (by have := HN.out; omega) (by have := HN.out; omega) HB0.out.size ?_; intro A1 k1 wc ho1 hg1; have hbn := (Below.refl _ _).grown hg1 (Nat.le_refl _) (by simp [Value.ownBlock]); replace HB0 := Lib.hid (HB0.out.trans (hbn.mono HB0.out.size)); have hP := HPS.out _ HB0.out; (try replace HO1 := Lib.hid (own_belowN HO1.out hbn)); (try replace HVB := Lib.hid ((Vs.below HVB.out hbn).mono hbn.size)); (try replace HDV := Lib.hid (show Dv _ _ _ _ _ from (Vs.below HDV.out hbn).mono hbn.size)); (try replace HZB := Lib.hid (HZB.out.below hbn)); (try replace HR3 := Lib.hid (ixPrg.on HR3.out hbn)); (try replace HX3 := Lib.hid (HX3.out.below hbn)); have HO1 := Lib.hid ho1; clear hbn ho1 hg1
                refine hK.out _ _ hP (fun hHeld => ?_)
                clear hK K
                refine wpAnyH_ready (rs := [5, 10]) (by kernel_rfl) (by simp) ?_
                refine AllReadyH.cons (List.getElem?_toArray.trans rfl) (fun K hK => ?_) (AllReadyH.cons (List.getElem?_toArray.trans rfl) (fun K hK => ?_) AllReadyH.nil)
                · refine step_append_rows (by rfl) _ _ _ (by rfl) w7.heap.size 52 i0 zz 9 80 Tryd.underlying22 HI0.out HZ0.out HSI.out HBI.out HZC.out (by omega) (.slice A1 n k1) n (ddV L) (by rfl) HO1.out _ _ 2 2 d2 (by rfl) (by rw [show 2 * 9 = d2.length from HCL2.out.symm]; simpa using HVB.out) HONE2.out (n + 2) rfl (ddV (L ++ [d, d])) (by rw [HDC2.out, ← ddV_append]) (by have := HN.out; omega) (by have := HN.out; omega) HB0.out.size ?_; intro A2 k2 wc ho2 hg2; have hbo := HB0.out.grown hg2 HB0.out.size (fun q hq => (HO1.out.lt q hq).1); replace HB0 := Lib.hid hbo; have hP := HPS.out _ HB0.out; have HDV := Lib.hid (dv_of_own ho2); (try replace HZB := Lib.hid (zb_kept HZB.out hg2 HO1.out)); clear HO1 HVB hbo hg2 ho2
                  refine hK.out _ _ hP (fun hHeld => ?_)
                  clear hK K
                  refine wpAnyH_ready (rs := [6, 10]) (by kernel_rfl) (by simp) ?_
                  refine AllReadyH.cons (List.getElem?_toArray.trans rfl) (fun K hK => ?_) (AllReadyH.cons (List.getElem?_toArray.trans rfl) (fun K hK => ?_) AllReadyH.nil)
                  · go_simp
                    go_at_call 6; (with_reducible refine (made_any ixPrg HZR.out (ixP_length _ _) A2 (n + 2) k2 (L ++ [d, d]) wc HDV.out (by have := HN.out; omega)).mono ?_); rintro e wc ⟨cs3, own3, rb3, rfl, hR3, ho3, hx3, hr3, hbn⟩; (try have HNE := Lib.hid (fun i hi => Nat.ne_of_gt (Nat.lt_of_lt_of_le HZB.out.lt (ho3 i hi).1))); (try have HNR : Hid (rb3 ≠ bz) := Lib.hid (Nat.ne_of_gt (Nat.lt_of_lt_of_le HZB.out.lt hr3))); replace HB0 := Lib.hid (HB0.out.trans (hbn.mono HB0.out.size)); have hP := HPS.out _ HB0.out; (try replace HO1 := Lib.hid (own_belowN HO1.out hbn)); (try replace HVB := Lib.hid ((Vs.below HVB.out hbn).mono hbn.size)); (try replace HDV := Lib.hid (show Dv _ _ _ _ _ from (Vs.below HDV.out hbn).mono hbn.size)); (try replace HZB := Lib.hid (HZB.out.below hbn)); (try replace HR3 := Lib.hid (ixPrg.on HR3.out hbn)); (try replace HX3 := Lib.hid (HX3.out.below hbn)); have HR3 := Lib.hid hR3; have HX3 := Lib.hid hx3; clear hbn hR3 ho3 hx3 hr3 HDV
                    refine hK.out _ _ hP (fun hHeld => ?_)
                    clear hK K
                    refine wpAnyH_take (i := 7) (v := ?_) (List.getElem?_toArray.trans rfl) (by kernel_rfl) (by kernel_rfl) (by kernel_rfl) (fun _ _ _ h => h) (Or.inl ⟨by rfl, ?_⟩) (by assumption) ?_
                    case refine_2 => (intro w hSw; (try dsimp only at hSw); clear hSw; go_simp <;> with_reducible rfl)
                    simp only [Act.put, List.setIfInBounds_toArray, List.set_cons_zero, List.set_cons_succ]
                    refine wpAnyH_take (i := 8) (v := ?_) (List.getElem?_toArray.trans rfl) (by kernel_rfl) (by kernel_rfl) (by kernel_rfl) (fun _ _ _ h => h) (Or.inl ⟨by rfl, ?_⟩) (by assumption) ?_
                    case refine_2 => (intro w hSw; (try dsimp only at hSw); clear hSw; go_simp <;> with_reducible rfl)
                    simp only [Act.put, List.setIfInBounds_toArray, List.set_cons_zero, List.set_cons_succ]
                    refine wpAnyH_take (i := 9) (v := ?_) (List.getElem?_toArray.trans rfl) (by kernel_rfl) (by kernel_rfl) (by kernel_rfl) (fun _ _ _ h => h) (Or.inl ⟨by rfl, ?_⟩) (by assumption) ?_
                    case refine_2 => (intro w hSw; (try dsimp only at hSw); clear hSw; go_simp <;> with_reducible rfl)
                    simp only [Act.put, List.setIfInBounds_toArray, List.set_cons_zero, List.set_cons_succ]
                    refine wpAnyH_ready (rs := [10]) (by kernel_rfl) (by simp) ?_
                    refine AllReadyH.cons (List.getElem?_toArray.trans rfl) (fun K hK => ?_) AllReadyH.nil
                    go_simp; obtain ⟨bz, hbz⟩ : ∃ bz, bz = wc.heap.size := ⟨_, rfl⟩; rw [← hbz]; have hbn := (Below.refl wc.heap.size wc).alloc (Nat.le_refl _) (.cells zP.toArray 35); have hzb : IxBox (wc.alloc (.cells zP.toArray 35)) bz zP := (by rw [hbz]; exact IxBox.new wc zP); (try have HNE : Hid (∀ i, own3 i → i ≠ bz) := Lib.hid fun i hi => Nat.ne_of_lt (by rw [hbz]; exact ixPrg.lt HR3.out hi)); (try have HNR : Hid (rb3 ≠ bz) := Lib.hid (Nat.ne_of_lt (by rw [hbz]; exact HX3.out.lt))); have HBZ := Lib.hid (show w7.heap.size ≤ bz by rw [hbz]; exact HB0.out.size); replace HB0 := Lib.hid (HB0.out.trans (hbn.mono HB0.out.size)); have hP := HPS.out _ HB0.out; (try replace HO1 := Lib.hid (own_belowN HO1.out hbn)); (try replace HVB := Lib.hid ((Vs.below HVB.out hbn).mono hbn.size)); (try replace HDV := Lib.hid (show Dv _ _ _ _ _ from (Vs.below HDV.out hbn).mono hbn.size)); (try replace HZB := Lib.hid (HZB.out.below hbn)); (try replace HR3 := Lib.hid (ixPrg.on HR3.out hbn)); (try replace HX3 := Lib.hid (HX3.out.below hbn)); have HZB := Lib.hid hzb; clear hbn hzb hbz; generalize wc.alloc (.cells zP.toArray 35) = wc at *
                    refine hK.out _ _ hP (fun hHeld => ?_)
                    clear hK K
                    refine wpAnyH_ready (rs := [11]) (by kernel_rfl) (by simp) ?_
                    refine AllReadyH.cons (List.getElem?_toArray.trans rfl) (fun K hK => ?_) AllReadyH.nil
                    rw [if_pos (by rfl)]; refine wp_store_mid 35 (.tmp 13) (.tmp 52) (by rfl) _ 0 cs3.toArray (by rfl) (by rfl) (HZB.out.there (by rw [ixP_length]; simpa using (ixPrg.len HR3.out).symm)) (by rw [show cs3.toArray.size = 176 by simpa using ixPrg.len HR3.out]; exact ixPrg.size) (all_oneCell_toArray (ixPrg.one HR3.out)) ?_; rw [List.toList_toArray]; have HEND := Lib.hid (pair_put HZB.out HR3.out HNE.out HX3.out HNR.out HB0.out HBZ.out); have hP := HPS.out _ HEND.out.2; generalize wc.setCells bz 0 cs3 = wc at *
                    refine hK.out _ _ hP (fun hHeld => ?_)
                    clear hK K
                    refine wpAnyH_take (i := 12) (v := ?_) (List.getElem?_toArray.trans rfl) (by kernel_rfl) (by kernel_rfl) (by kernel_rfl) (fun _ _ _ h => h) (Or.inl ⟨by rfl, ?_⟩) (by assumption) ?_
                    case refine_2 => (intro w hSw; (try dsimp only at hSw); clear hSw; go_simp <;> with_reducible rfl)
                    simp only [Act.put, List.setIfInBounds_toArray, List.set_cons_zero, List.set_cons_succ]
                    refine wpAnyH_done (by kernel_rfl) ?_ _
                    refine NoPanic.normal ?_
                    go_wp2_with fail
                    go_meet
                    exact ⟨bz, rb3, cs3, own3, rfl, rfl, HEND⟩
                  · go_simp; obtain ⟨bz, hbz⟩ : ∃ bz, bz = wc.heap.size := ⟨_, rfl⟩; rw [← hbz]; have hbn := (Below.refl wc.heap.size wc).alloc (Nat.le_refl _) (.cells zP.toArray 35); have hzb : IxBox (wc.alloc (.cells zP.toArray 35)) bz zP := (by rw [hbz]; exact IxBox.new wc zP); (try have HNE : Hid (∀ i, own3 i → i ≠ bz) := Lib.hid fun i hi => Nat.ne_of_lt (by rw [hbz]; exact ixPrg.lt HR3.out hi)); (try have HNR : Hid (rb3 ≠ bz) := Lib.hid (Nat.ne_of_lt (by rw [hbz]; exact HX3.out.lt))); have HBZ := Lib.hid (show w7.heap.size ≤ bz by rw [hbz]; exact HB0.out.size); replace HB0 := Lib.hid (HB0.out.trans (hbn.mono HB0.out.size)); have hP := HPS.out _ HB0.out; (try replace HO1 := Lib.hid (own_belowN HO1.out hbn)); (try replace HVB := Lib.hid ((Vs.below HVB.out hbn).mono hbn.size)); (try replace HDV := Lib.hid (show Dv _ _ _ _ _ from (Vs.below HDV.out hbn).mono hbn.size)); (try replace HZB := Lib.hid (HZB.out.below hbn)); (try replace HR3 := Lib.hid (ixPrg.on HR3.out hbn)); (try replace HX3 := Lib.hid (HX3.out.below hbn)); have HZB := Lib.hid hzb; clear hbn hzb hbz; generalize wc.alloc (.cells zP.toArray 35) = wc at *
                    refine hK.out _ _ hP (fun hHeld => ?_)
                    clear hK K
                    refine wpAnyH_ready (rs := [6]) (by kernel_rfl) (by simp) ?_
                    refine AllReadyH.cons (List.getElem?_toArray.trans rfl) (fun K hK => ?_) AllReadyH.nil
                    go_simp
                    go_at_call 6; (with_reducible refine (made_any ixPrg HZR.out (ixP_length _ _) A2 (n + 2) k2 (L ++ [d, d]) wc HDV.out (by have := HN.out; omega)).mono ?_); rintro e wc ⟨cs3, own3, rb3, rfl, hR3, ho3, hx3, hr3, hbn⟩; (try have HNE := Lib.hid (fun i hi => Nat.ne_of_gt (Nat.lt_of_lt_of_le HZB.out.lt (ho3 i hi).1))); (try have HNR : Hid (rb3 ≠ bz) := Lib.hid (Nat.ne_of_gt (Nat.lt_of_lt_of_le HZB.out.lt hr3))); replace HB0 := Lib.hid (HB0.out.trans (hbn.mono HB0.out.size)); have hP := HPS.out _ HB0.out; (try replace HO1 := Lib.hid (own_belowN HO1.out hbn)); (try replace HVB := Lib.hid ((Vs.below HVB.out hbn).mono hbn.size)); (try replace HDV := Lib.hid (show Dv _ _ _ _ _ from (Vs.below HDV.out hbn).mono hbn.size)); (try replace HZB := Lib.hid (HZB.out.below hbn)); (try replace HR3 := Lib.hid (ixPrg.on HR3.out hbn)); (try replace HX3 := Lib.hid (HX3.out.below hbn)); have HR3 := Lib.hid hR3; have HX3 := Lib.hid hx3; clear hbn hR3 ho3 hx3 hr3 HDV
                    refine hK.out _ _ hP (fun hHeld => ?_)
                    clear hK K
                    refine wpAnyH_take (i := 7) (v := ?_) (List.getElem?_toArray.trans rfl) (by kernel_rfl) (by kernel_rfl) (by kernel_rfl) (fun _ _ _ h => h) (Or.inl ⟨by rfl, ?_⟩) (by assumption) ?_
                    case refine_2 => (intro w hSw; (try dsimp only at hSw); clear hSw; go_simp <;> with_reducible rfl)
                    simp only [Act.put, List.setIfInBounds_toArray, List.set_cons_zero, List.set_cons_succ]
                    refine wpAnyH_take (i := 8) (v := ?_) (List.getElem?_toArray.trans rfl) (by kernel_rfl) (by kernel_rfl) (by kernel_rfl) (fun _ _ _ h => h) (Or.inl ⟨by rfl, ?_⟩) (by assumption) ?_
                    case refine_2 => (intro w hSw; (try dsimp only at hSw); clear hSw; go_simp <;> with_reducible rfl)
                    simp only [Act.put, List.setIfInBounds_toArray, List.set_cons_zero, List.set_cons_succ]
                    refine wpAnyH_take (i := 9) (v := ?_) (List.getElem?_toArray.trans rfl) (by kernel_rfl) (by kernel_rfl) (by kernel_rfl) (fun _ _ _ h => h) (Or.inl ⟨by rfl, ?_⟩) (by assumption) ?_
                    case refine_2 => (intro w hSw; (try dsimp only at hSw); clear hSw; go_simp <;> with_reducible rfl)
                    simp only [Act.put, List.setIfInBounds_toArray, List.set_cons_zero, List.set_cons_succ]
                    refine wpAnyH_ready (rs := [11]) (by kernel_rfl) (by simp) ?_
                    refine AllReadyH.cons (List.getElem?_toArray.trans rfl) (fun K hK => ?_) AllReadyH.nil
                    rw [if_pos (by rfl)]; refine wp_store_mid 35 (.tmp 13) (.tmp 52) (by rfl) _ 0 cs3.toArray (by rfl) (by rfl) (HZB.out.there (by rw [ixP_length]; simpa using (ixPrg.len HR3.out).symm)) (by rw [show cs3.toArray.size = 176 by simpa using ixPrg.len HR3.out]; exact ixPrg.size) (all_oneCell_toArray (ixPrg.one HR3.out)) ?_; rw [List.toList_toArray]; have HEND := Lib.hid (pair_put HZB.out HR3.out HNE.out HX3.out HNR.out HB0.out HBZ.out); have hP := HPS.out _ HEND.out.2; generalize wc.setCells bz 0 cs3 = wc at *
                    refine hK.out _ _ hP (fun hHeld => ?_)
                    clear hK K
                    refine wpAnyH_take (i := 12) (v := ?_) (List.getElem?_toArray.trans rfl) (by kernel_rfl) (by kernel_rfl) (by kernel_rfl) (fun _ _ _ h => h) (Or.inl ⟨by rfl, ?_⟩) (by assumption) ?_
                    case refine_2 => (intro w hSw; (try dsimp only at hSw); clear hSw; go_simp <;> with_reducible rfl)
                    simp only [Act.put, List.setIfInBounds_toArray, List.set_cons_zero, List.set_cons_succ]
                    refine wpAnyH_done (by kernel_rfl) ?_ _
                    refine NoPanic.normal ?_
                    go_wp2_with fail
                    go_meet
                    exact ⟨bz, rb3, cs3, own3, rfl, rfl, HEND⟩
                · go_simp; obtain ⟨bz, hbz⟩ : ∃ bz, bz = wc.heap.size := ⟨_, rfl⟩; rw [← hbz]; have hbn := (Below.refl wc.heap.size wc).alloc (Nat.le_refl _) (.cells zP.toArray 35); have hzb : IxBox (wc.alloc (.cells zP.toArray 35)) bz zP := (by rw [hbz]; exact IxBox.new wc zP); (try have HNE : Hid (∀ i, own3 i → i ≠ bz) := Lib.hid fun i hi => Nat.ne_of_lt (by rw [hbz]; exact ixPrg.lt HR3.out hi)); (try have HNR : Hid (rb3 ≠ bz) := Lib.hid (Nat.ne_of_lt (by rw [hbz]; exact HX3.out.lt))); have HBZ := Lib.hid (show w7.heap.size ≤ bz by rw [hbz]; exact HB0.out.size); replace HB0 := Lib.hid (HB0.out.trans (hbn.mono HB0.out.size)); have hP := HPS.out _ HB0.out; (try replace HO1 := Lib.hid (own_belowN HO1.out hbn)); (try replace HVB := Lib.hid ((Vs.below HVB.out hbn).mono hbn.size)); (try replace HDV := Lib.hid (show Dv _ _ _ _ _ from (Vs.below HDV.out hbn).mono hbn.size)); (try replace HZB := Lib.hid (HZB.out.below hbn)); (try replace HR3 := Lib.hid (ixPrg.on HR3.out hbn)); (try replace HX3 := Lib.hid (HX3.out.below hbn)); have HZB := Lib.hid hzb; clear hbn hzb hbz; generalize wc.alloc (.cells zP.toArray 35) = wc at *
                  refine hK.out _ _ hP (fun hHeld => ?_)
                  clear hK K
                  refine wpAnyH_ready (rs := [5]) (by kernel_rfl) (by simp) ?_
                  refine AllReadyH.cons (List.getElem?_toArray.trans rfl) (fun K hK => ?_) AllReadyH.nil
                  refine step_append_rows (by rfl) _ _ _ (by rfl) w7.heap.size 52 i0 zz 9 80 Tryd.underlying22 HI0.out HZ0.out HSI.out HBI.out HZC.out (by omega) (.slice A1 n k1) n (ddV L) (by rfl) HO1.out _ _ 2 2 d2 (by rfl) (by rw [show 2 * 9 = d2.length from HCL2.out.symm]; simpa using HVB.out) HONE2.out (n + 2) rfl (ddV (L ++ [d, d])) (by rw [HDC2.out, ← ddV_append]) (by have := HN.out; omega) (by have := HN.out; omega) HB0.out.size ?_; intro A2 k2 wc ho2 hg2; have hbo := HB0.out.grown hg2 HB0.out.size (fun q hq => (HO1.out.lt q hq).1); replace HB0 := Lib.hid hbo; have hP := HPS.out _ HB0.out; have HDV := Lib.hid (dv_of_own ho2); (try replace HZB := Lib.hid (zb_kept HZB.out hg2 HO1.out)); clear HO1 HVB hbo hg2 ho2
                  refine hK.out _ _ hP (fun hHeld => ?_)
                  clear hK K
                  refine wpAnyH_ready (rs := [6]) (by kernel_rfl) (by simp) ?_
                  refine AllReadyH.cons (List.getElem?_toArray.trans rfl) (fun K hK => ?_) AllReadyH.nil
                  go_simp
                  go_at_call 6; (with_reducible refine (made_any ixPrg HZR.out (ixP_length _ _) A2 (n + 2) k2 (L ++ [d, d]) wc HDV.out (by have := HN.out; omega)).mono ?_); rintro e wc ⟨cs3, own3, rb3, rfl, hR3, ho3, hx3, hr3, hbn⟩; (try have HNE := Lib.hid (fun i hi => Nat.ne_of_gt (Nat.lt_of_lt_of_le HZB.out.lt (ho3 i hi).1))); (try have HNR : Hid (rb3 ≠ bz) := Lib.hid (Nat.ne_of_gt (Nat.lt_of_lt_of_le HZB.out.lt hr3))); replace HB0 := Lib.hid (HB0.out.trans (hbn.mono HB0.out.size)); have hP := HPS.out _ HB0.out; (try replace HO1 := Lib.hid (own_belowN HO1.out hbn)); (try replace HVB := Lib.hid ((Vs.below HVB.out hbn).mono hbn.size)); (try replace HDV := Lib.hid (show Dv _ _ _ _ _ from (Vs.below HDV.out hbn).mono hbn.size)); (try replace HZB := Lib.hid (HZB.out.below hbn)); (try replace HR3 := Lib.hid (ixPrg.on HR3.out hbn)); (try replace HX3 := Lib.hid (HX3.out.below hbn)); have HR3 := Lib.hid hR3; have HX3 := Lib.hid hx3; clear hbn hR3 ho3 hx3 hr3 HDV
                  refine hK.out _ _ hP (fun hHeld => ?_)
                  clear hK K
                  refine wpAnyH_take (i := 7) (v := ?_) (List.getElem?_toArray.trans rfl) (by kernel_rfl) (by kernel_rfl) (by kernel_rfl) (fun _ _ _ h => h) (Or.inl ⟨by rfl, ?_⟩) (by assumption) ?_
                  case refine_2 => (intro w hSw; (try dsimp only at hSw); clear hSw; go_simp <;> with_reducible rfl)
                  simp only [Act.put, List.setIfInBounds_toArray, List.set_cons_zero, List.set_cons_succ]
                  refine wpAnyH_take (i := 8) (v := ?_) (List.getElem?_toArray.trans rfl) (by kernel_rfl) (by kernel_rfl) (by kernel_rfl) (fun _ _ _ h => h) (Or.inl ⟨by rfl, ?_⟩) (by assumption) ?_
                  case refine_2 => (intro w hSw; (try dsimp only at hSw); clear hSw; go_simp <;> with_reducible rfl)
                  simp only [Act.put, List.setIfInBounds_toArray, List.set_cons_zero, List.set_cons_succ]
                  refine wpAnyH_take (i := 9) (v := ?_) (List.getElem?_toArray.trans rfl) (by kernel_rfl) (by kernel_rfl) (by kernel_rfl) (fun _ _ _ h => h) (Or.inl ⟨by rfl, ?_⟩) (by assumption) ?_
                  case refine_2 => (intro w hSw; (try dsimp only at hSw); clear hSw; go_simp <;> with_reducible rfl)
                  simp only [Act.put, List.setIfInBounds_toArray, List.set_cons_zero, List.set_cons_succ]
                  refine wpAnyH_ready (rs := [11]) (by kernel_rfl) (by simp) ?_
                  refine AllReadyH.cons (List.getElem?_toArray.trans rfl) (fun K hK => ?_) AllReadyH.nil
                  rw [if_pos (by rfl)]; refine wp_store_mid 35 (.tmp 13) (.tmp 52) (by rfl) _ 0 cs3.toArray (by rfl) (by rfl) (HZB.out.there (by rw [ixP_length]; simpa using (ixPrg.len HR3.out).symm)) (by rw [show cs3.toArray.size = 176 by simpa using ixPrg.len HR3.out]; exact ixPrg.size) (all_oneCell_toArray (ixPrg.one HR3.out)) ?_; rw [List.toList_toArray]; have HEND := Lib.hid (pair_put HZB.out HR3.out HNE.out HX3.out HNR.out HB0.out HBZ.out); have hP := HPS.out _ HEND.out.2; generalize wc.setCells bz 0 cs3 = wc at *
                  refine hK.out _ _ hP (fun hHeld => ?_)
                  clear hK K
                  refine wpAnyH_take (i := 12) (v := ?_) (List.getElem?_toArray.trans rfl) (by kernel_rfl) (by kernel_rfl) (by kernel_rfl) (fun _ _ _ h => h) (Or.inl ⟨by rfl, ?_⟩) (by assumption) ?_
                  case refine_2 => (intro w hSw; (try dsimp only at hSw); clear hSw; go_simp <;> with_reducible rfl)
                  simp only [Act.put, List.setIfInBounds_toArray, List.set_cons_zero, List.set_cons_succ]
                  refine wpAnyH_done (by kernel_rfl) ?_ _
                  refine NoPanic.normal ?_
                  go_wp2_with fail
                  go_meet
                  exact ⟨bz, rb3, cs3, own3, rfl, rfl, HEND⟩
              · go_simp; obtain ⟨bz, hbz⟩ : ∃ bz, bz = wc.heap.size := ⟨_, rfl⟩; rw [← hbz]; have hbn := (Below.refl wc.heap.size wc).alloc (Nat.le_refl _) (.cells zP.toArray 35); have hzb : IxBox (wc.alloc (.cells zP.toArray 35)) bz zP := (by rw [hbz]; exact IxBox.new wc zP); (try have HNE : Hid (∀ i, own3 i → i ≠ bz) := Lib.hid fun i hi => Nat.ne_of_lt (by rw [hbz]; exact ixPrg.lt HR3.out hi)); (try have HNR : Hid (rb3 ≠ bz) := Lib.hid (Nat.ne_of_lt (by rw [hbz]; exact HX3.out.lt))); have HBZ := Lib.hid (show w7.heap.size ≤ bz by rw [hbz]; exact HB0.out.size); replace HB0 := Lib.hid (HB0.out.trans (hbn.mono HB0.out.size)); have hP := HPS.out _ HB0.out; (try replace HO1 := Lib.hid (own_belowN HO1.out hbn)); (try replace HVB := Lib.hid ((Vs.below HVB.out hbn).mono hbn.size)); (try replace HDV := Lib.hid (show Dv _ _ _ _ _ from (Vs.below HDV.out hbn).mono hbn.size)); (try replace HZB := Lib.hid (HZB.out.below hbn)); (try replace HR3 := Lib.hid (ixPrg.on HR3.out hbn)); (try replace HX3 := Lib.hid (HX3.out.below hbn)); have HZB := Lib.hid hzb; clear hbn hzb hbz; generalize wc.alloc (.cells zP.toArray 35) = wc at *
                refine hK.out _ _ hP (fun hHeld => ?_)
                clear hK K
                refine wpAnyH_ready (rs := [1]) (by kernel_rfl) (by simp) ?_
                refine AllReadyH.cons (List.getElem?_toArray.trans rfl) (fun K hK => ?_) AllReadyH.nil
                refine step_append_rows (by rfl) _ _ _ (by rfl) w7.heap.size 52 i0 zz 9 80 Tryd.underlying22 HI0.out HZ0.out HSI.out HBI.out HZC.out (by omega) (.slice none 0 0) 0 [] (by rfl) (World.ownsRow_nil _ _ _ _) w.heap.size A n c (ddV L) (by rfl) (HAW.out _ HB0.out) (ddV_one L) n (Nat.zero_add n) (ddV L) (List.nil_append _) (by have := HN.out; omega) (by have := HN.out; omega) HB0.out.size ?_; intro A1 k1 wc ho1 hg1; have hbn := (Below.refl _ _).grown hg1 (Nat.le_refl _) (by simp [Value.ownBlock]); replace HB0 := Lib.hid (HB0.out.trans (hbn.mono HB0.out.size)); have hP := HPS.out _ HB0.out; (try replace HO1 := Lib.hid (own_belowN HO1.out hbn)); (try replace HVB := Lib.hid ((Vs.below HVB.out hbn).mono hbn.size)); (try replace HDV := Lib.hid (show Dv _ _ _ _ _ from (Vs.below HDV.out hbn).mono hbn.size)); (try replace HZB := Lib.hid (HZB.out.below hbn)); (try replace HR3 := Lib.hid (ixPrg.on HR3.out hbn)); (try replace HX3 := Lib.hid (HX3.out.below hbn)); have HO1 := Lib.hid ho1; clear hbn ho1 hg1
                refine hK.out _ _ hP (fun hHeld => ?_)
                clear hK K
                refine wpAnyH_ready (rs := [5]) (by kernel_rfl) (by simp) ?_
                refine AllReadyH.cons (List.getElem?_toArray.trans rfl) (fun K hK => ?_) AllReadyH.nil
                refine step_append_rows (by rfl) _ _ _ (by rfl) w7.heap.size 52 i0 zz 9 80 Tryd.underlying22 HI0.out HZ0.out HSI.out HBI.out HZC.out (by omega) (.slice A1 n k1) n (ddV L) (by rfl) HO1.out _ _ 2 2 d2 (by rfl) (by rw [show 2 * 9 = d2.length from HCL2.out.symm]; simpa using HVB.out) HONE2.out (n + 2) rfl (ddV (L ++ [d, d])) (by rw [HDC2.out, ← ddV_append]) (by have := HN.out; omega) (by have := HN.out; omega) HB0.out.size ?_; intro A2 k2 wc ho2 hg2; have hbo := HB0.out.grown hg2 HB0.out.size (fun q hq => (HO1.out.lt q hq).1); replace HB0 := Lib.hid hbo; have hP := HPS.out _ HB0.out; have HDV := Lib.hid (dv_of_own ho2); (try replace HZB := Lib.hid (zb_kept HZB.out hg2 HO1.out)); clear HO1 HVB hbo hg2 ho2
                refine hK.out _ _ hP (fun hHeld => ?_)
                clear hK K
                refine wpAnyH_ready (rs := [6]) (by kernel_rfl) (by simp) ?_
                refine AllReadyH.cons (List.getElem?_toArray.trans rfl) (fun K hK => ?_) AllReadyH.nil
                go_simp
                go_at_call 6; (with_reducible refine (made_any ixPrg HZR.out (ixP_length _ _) A2 (n + 2) k2 (L ++ [d, d]) wc HDV.out (by have := HN.out; omega)).mono ?_); rintro e wc ⟨cs3, own3, rb3, rfl, hR3, ho3, hx3, hr3, hbn⟩; (try have HNE := Lib.hid (fun i hi => Nat.ne_of_gt (Nat.lt_of_lt_of_le HZB.out.lt (ho3 i hi).1))); (try have HNR : Hid (rb3 ≠ bz) := Lib.hid (Nat.ne_of_gt (Nat.lt_of_lt_of_le HZB.out.lt hr3))); replace HB0 := Lib.hid (HB0.out.trans (hbn.mono HB0.out.size)); have hP := HPS.out _ HB0.out; (try replace HO1 := Lib.hid (own_belowN HO1.out hbn)); (try replace HVB := Lib.hid ((Vs.below HVB.out hbn).mono hbn.size)); (try replace HDV := Lib.hid (show Dv _ _ _ _ _ from (Vs.below HDV.out hbn).mono hbn.size)); (try replace HZB := Lib.hid (HZB.out.below hbn)); (try replace HR3 := Lib.hid (ixPrg.on HR3.out hbn)); (try replace HX3 := Lib.hid (HX3.out.below hbn)); have HR3 := Lib.hid hR3; have HX3 := Lib.hid hx3; clear hbn hR3 ho3 hx3 hr3 HDV
                refine hK.out _ _ hP (fun hHeld => ?_)
                clear hK K
                refine wpAnyH_take (i := 7) (v := ?_) (List.getElem?_toArray.trans rfl) (by kernel_rfl) (by kernel_rfl) (by kernel_rfl) (fun _ _ _ h => h) (Or.inl ⟨by rfl, ?_⟩) (by assumption) ?_
                case refine_2 => (intro w hSw; (try dsimp only at hSw); clear hSw; go_simp <;> with_reducible rfl)
                simp only [Act.put, List.setIfInBounds_toArray, List.set_cons_zero, List.set_cons_succ]
                refine wpAnyH_take (i := 8) (v := ?_) (List.getElem?_toArray.trans rfl) (by kernel_rfl) (by kernel_rfl) (by kernel_rfl) (fun _ _ _ h => h) (Or.inl ⟨by rfl, ?_⟩) (by assumption) ?_
                case refine_2 => (intro w hSw; (try dsimp only at hSw); clear hSw; go_simp <;> with_reducible rfl)
                simp only [Act.put, List.setIfInBounds_toArray, List.set_cons_zero, List.set_cons_succ]
                refine wpAnyH_take (i := 9) (v := ?_) (List.getElem?_toArray.trans rfl) (by kernel_rfl) (by kernel_rfl) (by kernel_rfl) (fun _ _ _ h => h) (Or.inl ⟨by rfl, ?_⟩) (by assumption) ?_
                case refine_2 => (intro w hSw; (try dsimp only at hSw); clear hSw; go_simp <;> with_reducible rfl)
                simp only [Act.put, List.setIfInBounds_toArray, List.set_cons_zero, List.set_cons_succ]
                refine wpAnyH_ready (rs := [11]) (by kernel_rfl) (by simp) ?_
                refine AllReadyH.cons (List.getElem?_toArray.trans rfl) (fun K hK => ?_) AllReadyH.nil
                rw [if_pos (by rfl)]; refine wp_store_mid 35 (.tmp 13) (.tmp 52) (by rfl) _ 0 cs3.toArray (by rfl) (by rfl) (HZB.out.there (by rw [ixP_length]; simpa using (ixPrg.len HR3.out).symm)) (by rw [show cs3.toArray.size = 176 by simpa using ixPrg.len HR3.out]; exact ixPrg.size) (all_oneCell_toArray (ixPrg.one HR3.out)) ?_; rw [List.toList_toArray]; have HEND := Lib.hid (pair_put HZB.out HR3.out HNE.out HX3.out HNR.out HB0.out HBZ.out); have hP := HPS.out _ HEND.out.2; generalize wc.setCells bz 0 cs3 = wc at *
                refine hK.out _ _ hP (fun hHeld => ?_)
                clear hK K
                refine wpAnyH_take (i := 12) (v := ?_) (List.getElem?_toArray.trans rfl) (by kernel_rfl) (by kernel_rfl) (by kernel_rfl) (fun _ _ _ h => h) (Or.inl ⟨by rfl, ?_⟩) (by assumption) ?_
                case refine_2 => (intro w hSw; (try dsimp only at hSw); clear hSw; go_simp <;> with_reducible rfl)
                simp only [Act.put, List.setIfInBounds_toArray, List.set_cons_zero, List.set_cons_succ]
                refine wpAnyH_done (by kernel_rfl) ?_ _
                refine NoPanic.normal ?_
                go_wp2_with fail
                go_meet
                exact ⟨bz, rb3, cs3, own3, rfl, rfl, HEND⟩
            · go_simp; obtain ⟨bz, hbz⟩ : ∃ bz, bz = wc.heap.size := ⟨_, rfl⟩; rw [← hbz]; have hbn := (Below.refl wc.heap.size wc).alloc (Nat.le_refl _) (.cells zP.toArray 35); have hzb : IxBox (wc.alloc (.cells zP.toArray 35)) bz zP := (by rw [hbz]; exact IxBox.new wc zP); (try have HNE : Hid (∀ i, own3 i → i ≠ bz) := Lib.hid fun i hi => Nat.ne_of_lt (by rw [hbz]; exact ixPrg.lt HR3.out hi)); (try have HNR : Hid (rb3 ≠ bz) := Lib.hid (Nat.ne_of_lt (by rw [hbz]; exact HX3.out.lt))); have HBZ := Lib.hid (show w7.heap.size ≤ bz by rw [hbz]; exact HB0.out.size); replace HB0 := Lib.hid (HB0.out.trans (hbn.mono HB0.out.size)); have hP := HPS.out _ HB0.out; (try replace HO1 := Lib.hid (own_belowN HO1.out hbn)); (try replace HVB := Lib.hid ((Vs.below HVB.out hbn).mono hbn.size)); (try replace HDV := Lib.hid (show Dv _ _ _ _ _ from (Vs.below HDV.out hbn).mono hbn.size)); (try replace HZB := Lib.hid (HZB.out.below hbn)); (try replace HR3 := Lib.hid (ixPrg.on HR3.out hbn)); (try replace HX3 := Lib.hid (HX3.out.below hbn)); have HZB := Lib.hid hzb; clear hbn hzb hbz; generalize wc.alloc (.cells zP.toArray 35) = wc at *
              refine hK.out _ _ hP (fun hHeld => ?_)
              clear hK K
              refine wpAnyH_ready (rs := [1, 4]) (by kernel_rfl) (by simp) ?_
              refine AllReadyH.cons (List.getElem?_toArray.trans rfl) (fun K hK => ?_) (AllReadyH.cons (List.getElem?_toArray.trans rfl) (fun K hK => ?_) AllReadyH.nil)
              · refine step_append_rows (by rfl) _ _ _ (by rfl) w7.heap.size 52 i0 zz 9 80 Tryd.underlying22 HI0.out HZ0.out HSI.out HBI.out HZC.out (by omega) (.slice none 0 0) 0 [] (by rfl) (World.ownsRow_nil _ _ _ _) w.heap.size A n c (ddV L) (by rfl) (HAW.out _ HB0.out) (ddV_one L) n (Nat.zero_add n) (ddV L) (List.nil_append _) (by have := HN.out; omega) (by have := HN.out; omega) HB0.out.size ?_; intro A1 k1 wc ho1 hg1; have hbn := (Below.refl _ _).grown hg1 (Nat.le_refl _) (by simp [Value.ownBlock]); replace HB0 := Lib.hid (HB0.out.trans (hbn.mono HB0.out.size)); have hP := HPS.out _ HB0.out; (try replace HO1 := Lib.hid (own_belowN HO1.out hbn)); (try replace HVB := Lib.hid ((Vs.below HVB.out hbn).mono hbn.size)); (try replace HDV := Lib.hid (show Dv _ _ _ _ _ from (Vs.below HDV.out hbn).mono hbn.size)); (try replace HZB := Lib.hid (HZB.out.below hbn)); (try replace HR3 := Lib.hid (ixPrg.on HR3.out hbn)); (try replace HX3 := Lib.hid (HX3.out.below hbn)); have HO1 := Lib.hid ho1; clear hbn ho1 hg1
                refine hK.out _ _ hP (fun hHeld => ?_)
                clear hK K
                refine wpAnyH_ready (rs := [4]) (by kernel_rfl) (by simp) ?_
                refine AllReadyH.cons (List.getElem?_toArray.trans rfl) (fun K hK => ?_) AllReadyH.nil
                go_simp; rw [build_eighteen HDC0.out HD2.out]; go_simp; have hbn := (Below.refl wc.heap.size wc).alloc (Nat.le_refl _) (.cells d2.toArray 52); have hvb := (Vs.new wc 52 (0, 0) d2.toArray).mono (B' := (wc.alloc (.cells d2.toArray 52)).heap.size) (by simp); replace HB0 := Lib.hid (HB0.out.trans (hbn.mono HB0.out.size)); have hP := HPS.out _ HB0.out; (try replace HO1 := Lib.hid (own_belowN HO1.out hbn)); (try replace HVB := Lib.hid ((Vs.below HVB.out hbn).mono hbn.size)); (try replace HDV := Lib.hid (show Dv _ _ _ _ _ from (Vs.below HDV.out hbn).mono hbn.size)); (try replace HZB := Lib.hid (HZB.out.below hbn)); (try replace HR3 := Lib.hid (ixPrg.on HR3.out hbn)); (try replace HX3 := Lib.hid (HX3.out.below hbn)); have HVB := Lib.hid hvb; clear hbn hvb; generalize wc.alloc (.cells d2.toArray 52) = wc at *
                refine hK.out _ _ hP (fun hHeld => ?_)
                clear hK K
                refine wpAnyH_ready (rs := [5]) (by kernel_rfl) (by simp) ?_
                refine AllReadyH.cons (List.getElem?_toArray.trans rfl) (fun K hK => ?_) AllReadyH.nil
                refine step_append_rows (by rfl) _ _ _ (by rfl) w7.heap.size 52 i0 zz 9 80 Tryd.underlying22 HI0.out HZ0.out HSI.out HBI.out HZC.out (by omega) (.slice A1 n k1) n (ddV L) (by rfl) HO1.out _ _ 2 2 d2 (by rfl) (by rw [show 2 * 9 = d2.length from HCL2.out.symm]; simpa using HVB.out) HONE2.out (n + 2) rfl (ddV (L ++ [d, d])) (by rw [HDC2.out, ← ddV_append]) (by have := HN.out; omega) (by have := HN.out; omega) HB0.out.size ?_; intro A2 k2 wc ho2 hg2; have hbo := HB0.out.grown hg2 HB0.out.size (fun q hq => (HO1.out.lt q hq).1); replace HB0 := Lib.hid hbo; have hP := HPS.out _ HB0.out; have HDV := Lib.hid (dv_of_own ho2); (try replace HZB := Lib.hid (zb_kept HZB.out hg2 HO1.out)); clear HO1 HVB hbo hg2 ho2
                refine hK.out _ _ hP (fun hHeld => ?_)
                clear hK K
                refine wpAnyH_ready (rs := [6]) (by kernel_rfl) (by simp) ?_
                refine AllReadyH.cons (List.getElem?_toArray.trans rfl) (fun K hK => ?_) AllReadyH.nil
                go_simp
                go_at_call 6; (with_reducible refine (made_any ixPrg HZR.out (ixP_length _ _) A2 (n + 2) k2 (L ++ [d, d]) wc HDV.out (by have := HN.out; omega)).mono ?_); rintro e wc ⟨cs3, own3, rb3, rfl, hR3, ho3, hx3, hr3, hbn⟩; (try have HNE := Lib.hid (fun i hi => Nat.ne_of_gt (Nat.lt_of_lt_of_le HZB.out.lt (ho3 i hi).1))); (try have HNR : Hid (rb3 ≠ bz) := Lib.hid (Nat.ne_of_gt (Nat.lt_of_lt_of_le HZB.out.lt hr3))); replace HB0 := Lib.hid (HB0.out.trans (hbn.mono HB0.out.size)); have hP := HPS.out _ HB0.out; (try replace HO1 := Lib.hid (own_belowN HO1.out hbn)); (try replace HVB := Lib.hid ((Vs.below HVB.out hbn).mono hbn.size)); (try replace HDV := Lib.hid (show Dv _ _ _ _ _ from (Vs.below HDV.out hbn).mono hbn.size)); (try replace HZB := Lib.hid (HZB.out.below hbn)); (try replace HR3 := Lib.hid (ixPrg.on HR3.out hbn)); (try replace HX3 := Lib.hid (HX3.out.below hbn)); have HR3 := Lib.hid hR3; have HX3 := Lib.hid hx3; clear hbn hR3 ho3 hx3 hr3 HDV
                refine hK.out _ _ hP (fun hHeld => ?_)
                clear hK K
                refine wpAnyH_take (i := 7) (v := ?_) (List.getElem?_toArray.trans rfl) (by kernel_rfl) (by kernel_rfl) (by kernel_rfl) (fun _ _ _ h => h) (Or.inl ⟨by rfl, ?_⟩) (by assumption) ?_
                case refine_2 => (intro w hSw; (try dsimp only at hSw); clear hSw; go_simp <;> with_reducible rfl)
                simp only [Act.put, List.setIfInBounds_toArray, List.set_cons_zero, List.set_cons_succ]
                refine wpAnyH_take (i := 8) (v := ?_) (List.getElem?_toArray.trans rfl) (by kernel_rfl) (by kernel_rfl) (by kernel_rfl) (fun _ _ _ h => h) (Or.inl ⟨by rfl, ?_⟩) (by assumption) ?_
                case refine_2 => (intro w hSw; (try dsimp only at hSw); clear hSw; go_simp <;> with_reducible rfl)
                simp only [Act.put, List.setIfInBounds_toArray, List.set_cons_zero, List.set_cons_succ]
                refine wpAnyH_take (i := 9) (v := ?_) (List.getElem?_toArray.trans rfl) (by kernel_rfl) (by kernel_rfl) (by kernel_rfl) (fun _ _ _ h => h) (Or.inl ⟨by rfl, ?_⟩) (by assumption) ?_
                case refine_2 => (intro w hSw; (try dsimp only at hSw); clear hSw; go_simp <;> with_reducible rfl)
                simp only [Act.put, List.setIfInBounds_toArray, List.set_cons_zero, List.set_cons_succ]
                refine wpAnyH_ready (rs := [11]) (by kernel_rfl) (by simp) ?_
                refine AllReadyH.cons (List.getElem?_toArray.trans rfl) (fun K hK => ?_) AllReadyH.nil
                rw [if_pos (by rfl)]; refine wp_store_mid 35 (.tmp 13) (.tmp 52) (by rfl) _ 0 cs3.toArray (by rfl) (by rfl) (HZB.out.there (by rw [ixP_length]; simpa using (ixPrg.len HR3.out).symm)) (by rw [show cs3.toArray.size = 176 by simpa using ixPrg.len HR3.out]; exact ixPrg.size) (all_oneCell_toArray (ixPrg.one HR3.out)) ?_; rw [List.toList_toArray]; have HEND := Lib.hid (pair_put HZB.out HR3.out HNE.out HX3.out HNR.out HB0.out HBZ.out); have hP := HPS.out _ HEND.out.2; generalize wc.setCells bz 0 cs3 = wc at *
                refine hK.out _ _ hP (fun hHeld => ?_)
                clear hK K
                refine wpAnyH_take (i := 12) (v := ?_) (List.getElem?_toArray.trans rfl) (by kernel_rfl) (by kernel_rfl) (by kernel_rfl) (fun _ _ _ h => h) (Or.inl ⟨by rfl, ?_⟩) (by assumption) ?_
                case refine_2 => (intro w hSw; (try dsimp only at hSw); clear hSw; go_simp <;> with_reducible rfl)
                simp only [Act.put, List.setIfInBounds_toArray, List.set_cons_zero, List.set_cons_succ]
                refine wpAnyH_done (by kernel_rfl) ?_ _
                refine NoPanic.normal ?_
                go_wp2_with fail
                go_meet
                exact ⟨bz, rb3, cs3, own3, rfl, rfl, HEND⟩
              · go_simp; rw [build_eighteen HDC0.out HD2.out]; go_simp; have hbn := (Below.refl wc.heap.size wc).alloc (Nat.le_refl _) (.cells d2.toArray 52); have hvb := (Vs.new wc 52 (0, 0) d2.toArray).mono (B' := (wc.alloc (.cells d2.toArray 52)).heap.size) (by simp); replace HB0 := Lib.hid (HB0.out.trans (hbn.mono HB0.out.size)); have hP := HPS.out _ HB0.out; (try replace HO1 := Lib.hid (own_belowN HO1.out hbn)); (try replace HVB := Lib.hid ((Vs.below HVB.out hbn).mono hbn.size)); (try replace HDV := Lib.hid (show Dv _ _ _ _ _ from (Vs.below HDV.out hbn).mono hbn.size)); (try replace HZB := Lib.hid (HZB.out.below hbn)); (try replace HR3 := Lib.hid (ixPrg.on HR3.out hbn)); (try replace HX3 := Lib.hid (HX3.out.below hbn)); have HVB := Lib.hid hvb; clear hbn hvb; generalize wc.alloc (.cells d2.toArray 52) = wc at *
                refine hK.out _ _ hP (fun hHeld => ?_)
                clear hK K
                refine wpAnyH_ready (rs := [1]) (by kernel_rfl) (by simp) ?_
                refine AllReadyH.cons (List.getElem?_toArray.trans rfl) (fun K hK => ?_) AllReadyH.nil
                refine step_append_rows (by rfl) _ _ _ (by rfl) w7.heap.size 52 i0 zz 9 80 Tryd.underlying22 HI0.out HZ0.out HSI.out HBI.out HZC.out (by omega) (.slice none 0 0) 0 [] (by rfl) (World.ownsRow_nil _ _ _ _) w.heap.size A n c (ddV L) (by rfl) (HAW.out _ HB0.out) (ddV_one L) n (Nat.zero_add n) (ddV L) (List.nil_append _) (by have := HN.out; omega) (by have := HN.out; omega) HB0.out.size ?_; intro A1 k1 wc ho1 hg1; have hbn := (Below.refl _ _).grown hg1 (Nat.le_refl _) (by simp [Value.ownBlock]); replace HB0 := Lib.hid (HB0.out.trans (hbn.mono HB0.out.size)); have hP := HPS.out _ HB0.out; (try replace HO1 := Lib.hid (own_belowN HO1.out hbn)); (try replace HVB := Lib.hid ((Vs.below HVB.out hbn).mono hbn.size)); (try replace HDV := Lib.hid (show Dv _ _ _ _ _ from (Vs.below HDV.out hbn).mono hbn.size)); (try replace HZB := Lib.hid (HZB.out.below hbn)); (try replace HR3 := Lib.hid (ixPrg.on HR3.out hbn)); (try replace HX3 := Lib.hid (HX3.out.below hbn)); have HO1 := Lib.hid ho1; clear hbn ho1 hg1
                refine hK.out _ _ hP (fun hHeld => ?_)
                clear hK K
                refine wpAnyH_ready (rs := [5]) (by kernel_rfl) (by simp) ?_
                refine AllReadyH.cons (List.getElem?_toArray.trans rfl) (fun K hK => ?_) AllReadyH.nil
                refine step_append_rows (by rfl) _ _ _ (by rfl) w7.heap.size 52 i0 zz 9 80 Tryd.underlying22 HI0.out HZ0.out HSI.out HBI.out HZC.out (by omega) (.slice A1 n k1) n (ddV L) (by rfl) HO1.out _ _ 2 2 d2 (by rfl) (by rw [show 2 * 9 = d2.length from HCL2.out.symm]; simpa using HVB.out) HONE2.out (n + 2) rfl (ddV (L ++ [d, d])) (by rw [HDC2.out, ← ddV_append]) (by have := HN.out; omega) (by have := HN.out; omega) HB0.out.size ?_; intro A2 k2 wc ho2 hg2; have hbo := HB0.out.grown hg2 HB0.out.size (fun q hq => (HO1.out.lt q hq).1); replace HB0 := Lib.hid hbo; have hP := HPS.out _ HB0.out; have HDV := Lib.hid (dv_of_own ho2); (try replace HZB := Lib.hid (zb_kept HZB.out hg2 HO1.out)); clear HO1 HVB hbo hg2 ho2
                refine hK.out _ _ hP (fun hHeld => ?_)
                clear hK K
                refine wpAnyH_ready (rs := [6]) (by kernel_rfl) (by simp) ?_
                refine AllReadyH.cons (List.getElem?_toArray.trans rfl) (fun K hK => ?_) AllReadyH.nil
                go_simp
                go_at_call 6; (with_reducible refine (made_any ixPrg HZR.out (ixP_length _ _) A2 (n + 2) k2 (L ++ [d, d]) wc HDV.out (by have := HN.out; omega)).mono ?_); rintro e wc ⟨cs3, own3, rb3, rfl, hR3, ho3, hx3, hr3, hbn⟩; (try have HNE := Lib.hid (fun i hi => Nat.ne_of_gt (Nat.lt_of_lt_of_le HZB.out.lt (ho3 i hi).1))); (try have HNR : Hid (rb3 ≠ bz) := Lib.hid (Nat.ne_of_gt (Nat.lt_of_lt_of_le HZB.out.lt hr3))); replace HB0 := Lib.hid (HB0.out.trans (hbn.mono HB0.out.size)); have hP := HPS.out _ HB0.out; (try replace HO1 := Lib.hid (own_belowN HO1.out hbn)); (try replace HVB := Lib.hid ((Vs.below HVB.out hbn).mono hbn.size)); (try replace HDV := Lib.hid (show Dv _ _ _ _ _ from (Vs.below HDV.out hbn).mono hbn.size)); (try replace HZB := Lib.hid (HZB.out.below hbn)); (try replace HR3 := Lib.hid (ixPrg.on HR3.out hbn)); (try replace HX3 := Lib.hid (HX3.out.below hbn)); have HR3 := Lib.hid hR3; have HX3 := Lib.hid hx3; clear hbn hR3 ho3 hx3 hr3 HDV
                refine hK.out _ _ hP (fun hHeld => ?_)
                clear hK K
                refine wpAnyH_take (i := 7) (v := ?_) (List.getElem?_toArray.trans rfl) (by kernel_rfl) (by kernel_rfl) (by kernel_rfl) (fun _ _ _ h => h) (Or.inl ⟨by rfl, ?_⟩) (by assumption) ?_
                case refine_2 => (intro w hSw; (try dsimp only at hSw); clear hSw; go_simp <;> with_reducible rfl)
                simp only [Act.put, List.setIfInBounds_toArray, List.set_cons_zero, List.set_cons_succ]
                refine wpAnyH_take (i := 8) (v := ?_) (List.getElem?_toArray.trans rfl) (by kernel_rfl) (by kernel_rfl) (by kernel_rfl) (fun _ _ _ h => h) (Or.inl ⟨by rfl, ?_⟩) (by assumption) ?_
                case refine_2 => (intro w hSw; (try dsimp only at hSw); clear hSw; go_simp <;> with_reducible rfl)
                simp only [Act.put, List.setIfInBounds_toArray, List.set_cons_zero, List.set_cons_succ]
                refine wpAnyH_take (i := 9) (v := ?_) (List.getElem?_toArray.trans rfl) (by kernel_rfl) (by kernel_rfl) (by kernel_rfl) (fun _ _ _ h => h) (Or.inl ⟨by rfl, ?_⟩) (by assumption) ?_
                case refine_2 => (intro w hSw; (try dsimp only at hSw); clear hSw; go_simp <;> with_reducible rfl)
                simp only [Act.put, List.setIfInBounds_toArray, List.set_cons_zero, List.set_cons_succ]
                refine wpAnyH_ready (rs := [11]) (by kernel_rfl) (by simp) ?_
                refine AllReadyH.cons (List.getElem?_toArray.trans rfl) (fun K hK => ?_) AllReadyH.nil
                rw [if_pos (by rfl)]; refine wp_store_mid 35 (.tmp 13) (.tmp 52) (by rfl) _ 0 cs3.toArray (by rfl) (by rfl) (HZB.out.there (by rw [ixP_length]; simpa using (ixPrg.len HR3.out).symm)) (by rw [show cs3.toArray.size = 176 by simpa using ixPrg.len HR3.out]; exact ixPrg.size) (all_oneCell_toArray (ixPrg.one HR3.out)) ?_; rw [List.toList_toArray]; have HEND := Lib.hid (pair_put HZB.out HR3.out HNE.out HX3.out HNR.out HB0.out HBZ.out); have hP := HPS.out _ HEND.out.2; generalize wc.setCells bz 0 cs3 = wc at *
                refine hK.out _ _ hP (fun hHeld => ?_)
                clear hK K
                refine wpAnyH_take (i := 12) (v := ?_) (List.getElem?_toArray.trans rfl) (by kernel_rfl) (by kernel_rfl) (by kernel_rfl) (fun _ _ _ h => h) (Or.inl ⟨by rfl, ?_⟩) (by assumption) ?_
                case refine_2 => (intro w hSw; (try dsimp only at hSw); clear hSw; go_simp <;> with_reducible rfl)
                simp only [Act.put, List.setIfInBounds_toArray, List.set_cons_zero, List.set_cons_succ]
                refine wpAnyH_done (by kernel_rfl) ?_ _
                refine NoPanic.normal ?_
                go_wp2_with fail
                go_meet
                exact ⟨bz, rb3, cs3, own3, rfl, rfl, HEND⟩
        case rest =>
          obtain ⟨b4, rb4, cs4, own4, rfl, rfl, HE4⟩ := hcut
          obtain ⟨w8, rfl⟩ : ∃ w8, w8 = wc := ⟨_, rfl⟩
          have hb78 := HE4.out.2
          have HP4 : Hid (∀ W, Below w8.heap.size w8 W → Pair b4 rb4 cs4 own4 (Ix.made (L ++ [d, d])) W) := Lib.hid fun W h => HE4.out.1.on h
          have HP1C : Hid (∀ W, Below w8.heap.size w8 W → Pair b1 rb1 cs1 own1 S1 W) := Lib.hid fun W h => HP1B.out _ (hb78.trans (h.mono hb78.size))
          have HP2C : Hid (∀ W, Below w8.heap.size w8 W → Pair b2 rb2 cs2 own2 S2 W) := Lib.hid fun W h => HP2B.out _ (hb78.trans (h.mono hb78.size))
          have HP3C : Hid (∀ W, Below w8.heap.size w8 W → Pair b3 rb3 cs3 own3 (Ix.made (L ++ [d])) W) := Lib.hid fun W h => HP3.out _ (hb78.trans (h.mono hb78.size))
          have HB8 : Hid (Below w.heap.size w w8) := Lib.hid (HB7.out.trans (hb78.mono HB7.out.size))
          have HD8 := Lib.hid ((hb78.block _ (Array.getElem?_eq_some_iff.1 HD7.out).1).trans HD7.out)
          have HS34 : Hid (Ix.made (L ++ [d, d]) = Ix.made (L ++ [d])) := Lib.hid (by
            rw [show L ++ [d, d] = (L ++ [d]) ++ [d] by simp, Ix.made_snoc, Ix.made_snoc, Ix.deed_twice])
          have HOK3 : Hid (Ix.Ok (Ix.made (L ++ [d]))) := Lib.hid (Ix.ok_made _)
          rw [HS34.out] at HP4
          have HCN : Hid (∀ W, Below w8.heap.size w8 W → W.cell? ⟨w.heap.size, 1, none⟩ = some (.int .i64 d.b.obj) ∧ W.cell? ⟨w.heap.size, 2, none⟩ = some (.int .i64 d.b.gen) ∧ W.cell? ⟨w.heap.size, 3, none⟩ = some (.string d.b.tag) ∧ W.cell? ⟨w.heap.size, 4, none⟩ = some (.int .i64 d.b.len) ∧ W.cell? ⟨w.heap.size, 5, none⟩ = some (.int .i64 d.b.tick) ∧ W.cell? ⟨w.heap.size, 6, none⟩ = some (.int .i64 d.i) ∧ W.cell? ⟨w.heap.size, 7, none⟩ = some (.int .i64 d.a.1) ∧ W.cell? ⟨w.heap.size, 8, none⟩ = some (.int .i64 d.a.2)) := Lib.hid fun W h => by
            have h9 := (h.block _ (Array.getElem?_eq_some_iff.1 HD8.out).1).trans HD8.out
            rw [HDC0.out] at h9
            have hc := fun j => cells_at (C := ddC d) h9 j
            exact ⟨hc 1, hc 2, hc 3, hc 4, hc 5, hc 6, hc 7, hc 8⟩
          obtain ⟨S3, hS3⟩ : ∃ S3, S3 = Ix.made (L ++ [d]) := ⟨_, rfl⟩
          rw [← hS3] at HP4 HP3C HOK3
          obtain ⟨dk, ⟨bo, bg, bt, bl, bk⟩, di, ⟨da1, da2⟩⟩ := d
          dsimp only at HCN
          clear hS3 hb78 HE4 HP1B HP2B HP3 HPS HAW HB0 hP HD8 HD7 HB7 HD5 HB5 HONE2 HCL2 HDC2 HD2 hz
          have hp := HP1C.out w8 (Below.refl _ _)
          have HXA := Lib.hid hp.1
          have HRA := Lib.hid hp.2.1
          obtain ⟨q1, q2, q3, q4, q5, q6, q7, q8⟩ := HCN.out w8 (Below.refl _ _)
          clear hp
          go_upto_region 10 with (first
            | (refine wpList_load_mid (by rfl) 35 (.tmp 7) (by rfl) b1 0 (by rfl) cs1 _ HXA.out.range Tryd.underlying35 (by rfl) HS1 ?_)
            | (go_at_call 9; (with_reducible refine (ixPrg.bound ⟨bo, bg, bt, bl, bk⟩ (da1, da2) HRA.out HOK1.out).mono ?_); rintro e x9 ⟨_, _, rfl, -, -, hbn⟩; have HBN := Lib.hid hbn; clear hbn))
          have HB9 : Hid (Below w8.heap.size w8 x9) := Lib.hid HBN.out
          clear q1 q2 q3 q4 q5 q6 q7 q8 HXA HRA HBN
          have hp := HP1C.out x9 HB9.out
          have HXA := Lib.hid hp.1
          have HRA := Lib.hid hp.2.1
          obtain ⟨q1, q2, q3, q4, q5, q6, q7, q8⟩ := HCN.out x9 HB9.out
          clear hp
          go_upto_region 11 with (first
            | (refine wpList_load_mid (by rfl) 35 (.tmp 7) (by rfl) b1 0 (by rfl) cs1 _ HXA.out.range Tryd.underlying35 (by rfl) HS1 ?_)
            | (go_at_call 10; (with_reducible refine (ixPrg.piece bo bg di (da1, da2) HRA.out HOK1.out).mono ?_); rintro e x10 ⟨_, _, rfl, -, -, hbn⟩; have HBN := Lib.hid hbn; clear hbn))
          have HB10 : Hid (Below w8.heap.size w8 x10) := Lib.hid (HB9.out.trans (HBN.out.mono HB9.out.size))
          clear q1 q2 q3 q4 q5 q6 q7 q8 HXA HRA HBN
          have hp := HP1C.out x10 HB10.out
          have HXA := Lib.hid hp.1
          have HRA := Lib.hid hp.2.1
          obtain ⟨q1, q2, q3, q4, q5, q6, q7, q8⟩ := HCN.out x10 HB10.out
          clear hp
          go_upto_region 12 with (first
            | (refine wpList_load_mid (by rfl) 35 (.tmp 7) (by rfl) b1 0 (by rfl) cs1 _ HXA.out.range Tryd.underlying35 (by rfl) HS1 ?_)
            | (go_at_call 11; (with_reducible refine (ixPrg.forget bo bg (da1, da2) HRA.out HOK1.out).mono ?_); rintro e w9 ⟨_, _, rfl, -, -, hbn⟩; have HBN := Lib.hid hbn; clear hbn))
          have HB11 : Hid (Below w8.heap.size w8 w9) := Lib.hid (HB10.out.trans (HBN.out.mono HB10.out.size))
          have HW9 : Hid (Below w.heap.size w w9) := Lib.hid (HB8.out.trans (HB11.out.mono HB8.out.size))
          have hto : ∀ W, Below w9.heap.size w9 W → Below w8.heap.size w8 W := fun W h => HB11.out.trans (h.mono HB11.out.size)
          have hq1 : ∀ W, Below w9.heap.size w9 W → Pair b1 rb1 cs1 own1 S1 W := fun W h => HP1C.out _ (hto W h)
          have hq2 : ∀ W, Below w9.heap.size w9 W → Pair b2 rb2 cs2 own2 S2 W := fun W h => HP2C.out _ (hto W h)
          have hq3 : ∀ W, Below w9.heap.size w9 W → Pair b3 rb3 cs3 own3 S3 W := fun W h => HP3C.out _ (hto W h)
          have hq4 : ∀ W, Below w9.heap.size w9 W → Pair b4 rb4 cs4 own4 S3 W := fun W h => HP4.out _ (hto W h)
          have hta : ∀ W, Below w9.heap.size w9 W → Tab64 W := fun W h => HT.out.on (HW9.out.trans (h.mono HW9.out.size))
          obtain ⟨q, hq⟩ : ∃ q, q = sameI S1 S2 := ⟨_, rfl⟩
          have hqs : sameI S2 S1 = q := by
            rw [hq, Bool.eq_iff_iff, sameI_iff HOK2.out HOK1.out, sameI_iff HOK1.out HOK2.out]
            exact ⟨fun h k hk => (h k hk).symm, fun h k hk => (h k hk).symm⟩
          have LK1 := Lib.hid fun W h => like_self KL (hta W h) (hq1 W h) HOK1.out
          have LK3 := Lib.hid fun W h => like_self KL (hta W h) (hq3 W h) HOK3.out
          have LK12 := Lib.hid fun W h => like_two KL (hta W h) (hq1 W h) (hq2 W h) HOK1.out HOK2.out hq.symm
          have LK21 := Lib.hid fun W h => like_two KL (hta W h) (hq2 W h) (hq1 W h) HOK2.out HOK1.out hqs
          have SK34 := Lib.hid fun W h => same_two (hq3 W h) (hq4 W h) HOK3.out HOK3.out (same_self HOK3.out)
          have SK12 := Lib.hid fun W h => same_two (hq1 W h) (hq2 W h) HOK1.out HOK2.out hq.symm
          have SK11 := Lib.hid fun W h => same_two (hq1 W h) (hq1 W h) HOK1.out HOK1.out (same_self HOK1.out)
          have HPS : Hid (∀ W, Below w9.heap.size w9 W → W.rangeAt b1 0 cs1 ∧ W.rangeAt b2 0 cs2 ∧ W.rangeAt b3 0 cs3 ∧ W.rangeAt b4 0 cs4) := Lib.hid fun W h => ⟨(hq1 W h).1.range, (hq2 W h).1.range, (hq3 W h).1.range, (hq4 W h).1.range⟩
          have HSZ1 : Hid ((Tryd.prog.info? 35).map (·.size) = some cs1.length) := Lib.hid (by rw [ixPrg.len (hq1 _ (Below.refl _ _)).2.1]; exact ixPrg.size)
          have HSZ2 : Hid ((Tryd.prog.info? 35).map (·.size) = some cs2.length) := Lib.hid (by rw [ixPrg.len (hq2 _ (Below.refl _ _)).2.1]; exact ixPrg.size)
          have HSZ3 : Hid ((Tryd.prog.info? 35).map (·.size) = some cs3.length) := Lib.hid (by rw [ixPrg.len (hq3 _ (Below.refl _ _)).2.1]; exact ixPrg.size)
          have HSZ4 : Hid ((Tryd.prog.info? 35).map (·.size) = some cs4.length) := Lib.hid (by rw [ixPrg.len (hq4 _ (Below.refl _ _)).2.1]; exact ixPrg.size)
          have HB0 := Lib.hid (Below.refl w9.heap.size w9).drew
          have hP := HPS.out _ HB0.out
          clear q1 q2 q3 q4 q5 q6 q7 q8 HXA HRA HBN hto hq1 hq2 hq3 hq4 hta hqs hq HP1C HP2C HP3C HP4 HCN
          -- region 12
          cases q
          · as_aux_lemma =>
              refine wp_region_noPanic ?_
              refine wp_region_held_drew (S := (fun W => W.rangeAt b1 0 cs1 ∧ W.rangeAt b2 0 cs2 ∧ W.rangeAt b3 0 cs3 ∧ W.rangeAt b4 0 cs4)) (by kernel_rfl) hP (fun hHeld => ?_)
              generalize w9.drew = wc at *
              refine wpAnyH_take (i := 0) (v := .agg cs1.toArray) (List.getElem?_toArray.trans rfl) (by decide +kernel) (by decide +kernel) (by decide +kernel) (fun _ _ _ h => h) ?_ (by assumption) ?_
              · exact yieldsIf_load_mid (by rfl) 35 _ (by rfl) b1 0 (by rfl) cs1 _ (fun _ h => h.1) Tryd.underlying35 (by rfl) HSZ1.out
              simp only [Act.put, List.setIfInBounds_toArray, List.set_cons_zero, List.set_cons_succ]
              refine wpAnyH_take (i := 1) (v := ?_) (List.getElem?_toArray.trans rfl) (by decide +kernel) (by decide +kernel) (by decide +kernel) (fun _ _ _ h => h) (Or.inl ⟨by rfl, ?_⟩) (by assumption) ?_
              case refine_2 => (intro w hSw; (try dsimp only at hSw); clear hSw; go_simp <;> with_reducible rfl)
              simp only [Act.put, List.setIfInBounds_toArray, List.set_cons_zero, List.set_cons_succ]
              refine wpAnyH_ready (rs := [2]) (by decide +kernel) (by simp) ?_
              refine AllReadyH.cons (List.getElem?_toArray.trans rfl) (fun K hK => ?_) AllReadyH.nil
              go_simp
              go_at_call 8; (with_reducible refine (LK1.out _ HB0.out).mono ?_); rintro e wc ⟨rfl, hbn⟩; replace HB0 := Lib.hid (HB0.out.trans (hbn.mono HB0.out.size)); have hP := HPS.out _ HB0.out; clear hbn
              refine hK.out _ _ hP (fun hHeld => ?_)
              clear hK K
              refine wpAnyH_take (i := 3) (v := ?_) (List.getElem?_toArray.trans rfl) (by decide +kernel) (by decide +kernel) (by decide +kernel) (fun _ _ _ h => h) (Or.inl ⟨by rfl, ?_⟩) (by assumption) ?_
              case refine_2 => (intro w hSw; (try dsimp only at hSw); clear hSw; go_simp <;> with_reducible rfl)
              simp only [Act.put, List.setIfInBounds_toArray, List.set_cons_zero, List.set_cons_succ]
              refine wpAnyH_take (i := 4) (v := .agg cs3.toArray) (List.getElem?_toArray.trans rfl) (by decide +kernel) (by decide +kernel) (by decide +kernel) (fun _ _ _ h => h) ?_ (by assumption) ?_
              · exact yieldsIf_load_mid (by rfl) 35 _ (by rfl) b3 0 (by rfl) cs3 _ (fun _ h => h.2.2.1) Tryd.underlying35 (by rfl) HSZ3.out
              simp only [Act.put, List.setIfInBounds_toArray, List.set_cons_zero, List.set_cons_succ]
              refine wpAnyH_take (i := 5) (v := .agg cs4.toArray) (List.getElem?_toArray.trans rfl) (by decide +kernel) (by decide +kernel) (by decide +kernel) (fun _ _ _ h => h) ?_ (by assumption) ?_
              · exact yieldsIf_load_mid (by rfl) 35 _ (by rfl) b4 0 (by rfl) cs4 _ (fun _ h => h.2.2.2) Tryd.underlying35 (by rfl) HSZ4.out
              simp only [Act.put, List.setIfInBounds_toArray, List.set_cons_zero, List.set_cons_succ]
              refine wpAnyH_ready (rs := [6]) (by decide +kernel) (by simp) ?_
              refine AllReadyH.cons (List.getElem?_toArray.trans rfl) (fun K hK => ?_) AllReadyH.nil
              go_simp
              go_at_call 12; (with_reducible refine (SK34.out _ HB0.out).mono ?_); rintro e wc ⟨rfl, hbn⟩; replace HB0 := Lib.hid (HB0.out.trans (hbn.mono HB0.out.size)); have hP := HPS.out _ HB0.out; clear hbn
              refine hK.out _ _ hP (fun hHeld => ?_)
              clear hK K
              refine wpAnyH_take (i := 7) (v := ?_) (List.getElem?_toArray.trans rfl) (by decide +kernel) (by decide +kernel) (by decide +kernel) (fun _ _ _ h => h) (Or.inl ⟨by rfl, ?_⟩) (by assumption) ?_
              case refine_2 => (intro w hSw; (try dsimp only at hSw); clear hSw; go_simp <;> with_reducible rfl)
              simp only [Act.put, List.setIfInBounds_toArray, List.set_cons_zero, List.set_cons_succ]
              refine wpAnyH_take (i := 8) (v := ?_) (List.getElem?_toArray.trans rfl) (by decide +kernel) (by decide +kernel) (by decide +kernel) (fun _ _ _ h => h) (Or.inl ⟨by rfl, ?_⟩) (by assumption) ?_
              case refine_2 => (intro w hSw; (try dsimp only at hSw); clear hSw; go_simp <;> with_reducible rfl)
              simp only [Act.put, List.setIfInBounds_toArray, List.set_cons_zero, List.set_cons_succ]
              refine wpAnyH_take (i := 9) (v := .agg cs3.toArray) (List.getElem?_toArray.trans rfl) (by decide +kernel) (by decide +kernel) (by decide +kernel) (fun _ _ _ h => h) ?_ (by assumption) ?_
              · exact yieldsIf_load_mid (by rfl) 35 _ (by rfl) b3 0 (by rfl) cs3 _ (fun _ h => h.2.2.1) Tryd.underlying35 (by rfl) HSZ3.out
              simp only [Act.put, List.setIfInBounds_toArray, List.set_cons_zero, List.set_cons_succ]
              refine wpAnyH_take (i := 10) (v := ?_) (List.getElem?_toArray.trans rfl) (by decide +kernel) (by decide +kernel) (by decide +kernel) (fun _ _ _ h => h) (Or.inl ⟨by rfl, ?_⟩) (by assumption) ?_
              case refine_2 => (intro w hSw; (try dsimp only at hSw); clear hSw; go_simp <;> with_reducible rfl)
              simp only [Act.put, List.setIfInBounds_toArray, List.set_cons_zero, List.set_cons_succ]
              refine wpAnyH_ready (rs := [11]) (by decide +kernel) (by simp) ?_
              refine AllReadyH.cons (List.getElem?_toArray.trans rfl) (fun K hK => ?_) AllReadyH.nil
              go_simp
              go_at_call 8; (with_reducible refine (LK3.out _ HB0.out).mono ?_); rintro e wc ⟨rfl, hbn⟩; replace HB0 := Lib.hid (HB0.out.trans (hbn.mono HB0.out.size)); have hP := HPS.out _ HB0.out; clear hbn
              refine hK.out _ _ hP (fun hHeld => ?_)
              clear hK K
              refine wpAnyH_take (i := 12) (v := ?_) (List.getElem?_toArray.trans rfl) (by decide +kernel) (by decide +kernel) (by decide +kernel) (fun _ _ _ h => h) (Or.inl ⟨by rfl, ?_⟩) (by assumption) ?_
              case refine_2 => (intro w hSw; (try dsimp only at hSw); clear hSw; go_simp <;> with_reducible rfl)
              simp only [Act.put, List.setIfInBounds_toArray, List.set_cons_zero, List.set_cons_succ]
              refine wpAnyH_take (i := 13) (v := ?_) (List.getElem?_toArray.trans rfl) (by decide +kernel) (by decide +kernel) (by decide +kernel) (fun _ _ _ h => h) (Or.inl ⟨by rfl, ?_⟩) (by assumption) ?_
              case refine_2 => (intro w hSw; (try dsimp only at hSw); clear hSw; go_simp <;> with_reducible rfl)
              simp only [Act.put, List.setIfInBounds_toArray, List.set_cons_zero, List.set_cons_succ]
              refine wpAnyH_take (i := 14) (v := .agg cs1.toArray) (List.getElem?_toArray.trans rfl) (by decide +kernel) (by decide +kernel) (by decide +kernel) (fun _ _ _ h => h) ?_ (by assumption) ?_
              · exact yieldsIf_load_mid (by rfl) 35 _ (by rfl) b1 0 (by rfl) cs1 _ (fun _ h => h.1) Tryd.underlying35 (by rfl) HSZ1.out
              simp only [Act.put, List.setIfInBounds_toArray, List.set_cons_zero, List.set_cons_succ]
              refine wpAnyH_take (i := 15) (v := .agg cs2.toArray) (List.getElem?_toArray.trans rfl) (by decide +kernel) (by decide +kernel) (by decide +kernel) (fun _ _ _ h => h) ?_ (by assumption) ?_
              · exact yieldsIf_load_mid (by rfl) 35 _ (by rfl) b2 0 (by rfl) cs2 _ (fun _ h => h.2.1) Tryd.underlying35 (by rfl) HSZ2.out
              simp only [Act.put, List.setIfInBounds_toArray, List.set_cons_zero, List.set_cons_succ]
              refine wpAnyH_take (i := 17) (v := .agg cs1.toArray) (List.getElem?_toArray.trans rfl) (by decide +kernel) (by decide +kernel) (by decide +kernel) (fun _ _ _ h => h) ?_ (by assumption) ?_
              · exact yieldsIf_load_mid (by rfl) 35 _ (by rfl) b1 0 (by rfl) cs1 _ (fun _ h => h.1) Tryd.underlying35 (by rfl) HSZ1.out
              simp only [Act.put, List.setIfInBounds_toArray, List.set_cons_zero, List.set_cons_succ]
              refine wpAnyH_take (i := 18) (v := ?_) (List.getElem?_toArray.trans rfl) (by decide +kernel) (by decide +kernel) (by decide +kernel) (fun _ _ _ h => h) (Or.inl ⟨by rfl, ?_⟩) (by assumption) ?_
              case refine_2 => (intro w hSw; (try dsimp only at hSw); clear hSw; go_simp <;> with_reducible rfl)
              simp only [Act.put, List.setIfInBounds_toArray, List.set_cons_zero, List.set_cons_succ]
              refine wpAnyH_ready (rs := [16]) (by decide +kernel) (by simp) ?_
              refine AllReadyH.cons (List.getElem?_toArray.trans rfl) (fun K hK => ?_) AllReadyH.nil
              go_simp
              go_at_call 12; (with_reducible refine (SK12.out _ HB0.out).mono ?_); rintro e wc ⟨rfl, hbn⟩; replace HB0 := Lib.hid (HB0.out.trans (hbn.mono HB0.out.size)); have hP := HPS.out _ HB0.out; clear hbn
              refine hK.out _ _ hP (fun hHeld => ?_)
              clear hK K
              refine wpAnyH_ready (rs := [19]) (by decide +kernel) (by simp) ?_
              refine AllReadyH.cons (List.getElem?_toArray.trans rfl) (fun K hK => ?_) AllReadyH.nil
              go_simp
              go_at_call 8; (with_reducible refine (LK12.out _ HB0.out).mono ?_); rintro e wc ⟨rfl, hbn⟩; replace HB0 := Lib.hid (HB0.out.trans (hbn.mono HB0.out.size)); have hP := HPS.out _ HB0.out; clear hbn
              refine hK.out _ _ hP (fun hHeld => ?_)
              clear hK K
              refine wpAnyH_take (i := 20) (v := ?_) (List.getElem?_toArray.trans rfl) (by decide +kernel) (by decide +kernel) (by decide +kernel) (fun _ _ _ h => h) (Or.inl ⟨by rfl, ?_⟩) (by assumption) ?_
              case refine_2 => (intro w hSw; (try dsimp only at hSw); clear hSw; go_simp <;> with_reducible rfl)
              simp only [Act.put, List.setIfInBounds_toArray, List.set_cons_zero, List.set_cons_succ]
              refine wpAnyH_take (i := 21) (v := undef) (List.getElem?_toArray.trans rfl) (by decide +kernel) (by decide +kernel) (by decide +kernel) (fun _ _ _ h => h) (Or.inr ⟨by rfl, rfl⟩) (by assumption) ?_
              simp only [Act.put, List.setIfInBounds_toArray, List.set_cons_zero, List.set_cons_succ]
              refine wpAnyH_take (i := 22) (v := undef) (List.getElem?_toArray.trans rfl) (by decide +kernel) (by decide +kernel) (by decide +kernel) (fun _ _ _ h => h) (Or.inr ⟨by rfl, rfl⟩) (by assumption) ?_
              simp only [Act.put, List.setIfInBounds_toArray, List.set_cons_zero, List.set_cons_succ]
              refine wpAnyH_take (i := 23) (v := undef) (List.getElem?_toArray.trans rfl) (by decide +kernel) (by decide +kernel) (by decide +kernel) (fun _ _ _ h => h) (Or.inr ⟨by rfl, rfl⟩) (by assumption) ?_
              simp only [Act.put, List.setIfInBounds_toArray, List.set_cons_zero, List.set_cons_succ]
              refine wpAnyH_take (i := 24) (v := ?_) (List.getElem?_toArray.trans rfl) (by decide +kernel) (by decide +kernel) (by decide +kernel) (fun _ _ _ h => h) (Or.inl ⟨by rfl, ?_⟩) (by assumption) ?_
              case refine_2 => (intro w hSw; (try dsimp only at hSw); clear hSw; go_simp <;> with_reducible rfl)
              simp only [Act.put, List.setIfInBounds_toArray, List.set_cons_zero, List.set_cons_succ]
              refine wpAnyH_take (i := 25) (v := ?_) (List.getElem?_toArray.trans rfl) (by decide +kernel) (by decide +kernel) (by decide +kernel) (fun _ _ _ h => h) (Or.inl ⟨by rfl, ?_⟩) (by assumption) ?_
              case refine_2 => (intro w hSw; (try dsimp only at hSw); clear hSw; go_simp <;> with_reducible rfl)
              simp only [Act.put, List.setIfInBounds_toArray, List.set_cons_zero, List.set_cons_succ]
              refine wpAnyH_take (i := 26) (v := ?_) (List.getElem?_toArray.trans rfl) (by decide +kernel) (by decide +kernel) (by decide +kernel) (fun _ _ _ h => h) (Or.inl ⟨by rfl, ?_⟩) (by assumption) ?_
              case refine_2 => (intro w hSw; (try dsimp only at hSw); clear hSw; go_simp <;> with_reducible rfl)
              simp only [Act.put, List.setIfInBounds_toArray, List.set_cons_zero, List.set_cons_succ]
              refine wpAnyH_take (i := 27) (v := ?_) (List.getElem?_toArray.trans rfl) (by decide +kernel) (by decide +kernel) (by decide +kernel) (fun _ _ _ h => h) (Or.inl ⟨by rfl, ?_⟩) (by assumption) ?_
              case refine_2 => (intro w hSw; (try dsimp only at hSw); clear hSw; go_simp <;> with_reducible rfl)
              simp only [Act.put, List.setIfInBounds_toArray, List.set_cons_zero, List.set_cons_succ]
              refine wpAnyH_take (i := 28) (v := .agg cs1.toArray) (List.getElem?_toArray.trans rfl) (by decide +kernel) (by decide +kernel) (by decide +kernel) (fun _ _ _ h => h) ?_ (by assumption) ?_
              · exact yieldsIf_load_mid (by rfl) 35 _ (by rfl) b1 0 (by rfl) cs1 _ (fun _ h => h.1) Tryd.underlying35 (by rfl) HSZ1.out
              simp only [Act.put, List.setIfInBounds_toArray, List.set_cons_zero, List.set_cons_succ]
              refine wpAnyH_take (i := 29) (v := .agg cs1.toArray) (List.getElem?_toArray.trans rfl) (by decide +kernel) (by decide +kernel) (by decide +kernel) (fun _ _ _ h => h) ?_ (by assumption) ?_
              · exact yieldsIf_load_mid (by rfl) 35 _ (by rfl) b1 0 (by rfl) cs1 _ (fun _ h => h.1) Tryd.underlying35 (by rfl) HSZ1.out
              simp only [Act.put, List.setIfInBounds_toArray, List.set_cons_zero, List.set_cons_succ]
              refine wpAnyH_ready (rs := [30]) (by decide +kernel) (by simp) ?_
              refine AllReadyH.cons (List.getElem?_toArray.trans rfl) (fun K hK => ?_) AllReadyH.nil
              go_simp
              go_at_call 12; (with_reducible refine (SK11.out _ HB0.out).mono ?_); rintro e wc ⟨rfl, hbn⟩; replace HB0 := Lib.hid (HB0.out.trans (hbn.mono HB0.out.size)); have hP := HPS.out _ HB0.out; clear hbn
              refine hK.out _ _ hP (fun hHeld => ?_)
              clear hK K
              refine wpAnyH_take (i := 31) (v := ?_) (List.getElem?_toArray.trans rfl) (by decide +kernel) (by decide +kernel) (by decide +kernel) (fun _ _ _ h => h) (Or.inl ⟨by rfl, ?_⟩) (by assumption) ?_
              case refine_2 => (intro w hSw; (try dsimp only at hSw); clear hSw; go_simp <;> with_reducible rfl)
              simp only [Act.put, List.setIfInBounds_toArray, List.set_cons_zero, List.set_cons_succ]
              refine wpAnyH_take (i := 32) (v := ?_) (List.getElem?_toArray.trans rfl) (by decide +kernel) (by decide +kernel) (by decide +kernel) (fun _ _ _ h => h) (Or.inl ⟨by rfl, ?_⟩) (by assumption) ?_
              case refine_2 => (intro w hSw; (try dsimp only at hSw); clear hSw; go_simp <;> with_reducible rfl)
              simp only [Act.put, List.setIfInBounds_toArray, List.set_cons_zero, List.set_cons_succ]
              refine wpAnyH_done (by decide +kernel) ?_ _
              refine NoPanic.normal ?_
              go_wp2_with fail
              go_ret
              exact ⟨rfl, HW9.out.trans (HB0.out.mono HW9.out.size)⟩
          · as_aux_lemma =>
              refine wp_region_noPanic ?_
              refine wp_region_held_drew (S := (fun W => W.rangeAt b1 0 cs1 ∧ W.rangeAt b2 0 cs2 ∧ W.rangeAt b3 0 cs3 ∧ W.rangeAt b4 0 cs4)) (by kernel_rfl) hP (fun hHeld => ?_)
              generalize w9.drew = wc at *
              refine wpAnyH_take (i := 0) (v := .agg cs1.toArray) (List.getElem?_toArray.trans rfl) (by decide +kernel) (by decide +kernel) (by decide +kernel) (fun _ _ _ h => h) ?_ (by assumption) ?_
              · exact yieldsIf_load_mid (by rfl) 35 _ (by rfl) b1 0 (by rfl) cs1 _ (fun _ h => h.1) Tryd.underlying35 (by rfl) HSZ1.out
              simp only [Act.put, List.setIfInBounds_toArray, List.set_cons_zero, List.set_cons_succ]
              refine wpAnyH_take (i := 1) (v := ?_) (List.getElem?_toArray.trans rfl) (by decide +kernel) (by decide +kernel) (by decide +kernel) (fun _ _ _ h => h) (Or.inl ⟨by rfl, ?_⟩) (by assumption) ?_
              case refine_2 => (intro w hSw; (try dsimp only at hSw); clear hSw; go_simp <;> with_reducible rfl)
              simp only [Act.put, List.setIfInBounds_toArray, List.set_cons_zero, List.set_cons_succ]
              refine wpAnyH_ready (rs := [2]) (by decide +kernel) (by simp) ?_
              refine AllReadyH.cons (List.getElem?_toArray.trans rfl) (fun K hK => ?_) AllReadyH.nil
              go_simp
              go_at_call 8; (with_reducible refine (LK1.out _ HB0.out).mono ?_); rintro e wc ⟨rfl, hbn⟩; replace HB0 := Lib.hid (HB0.out.trans (hbn.mono HB0.out.size)); have hP := HPS.out _ HB0.out; clear hbn
              refine hK.out _ _ hP (fun hHeld => ?_)
              clear hK K
              refine wpAnyH_take (i := 3) (v := ?_) (List.getElem?_toArray.trans rfl) (by decide +kernel) (by decide +kernel) (by decide +kernel) (fun _ _ _ h => h) (Or.inl ⟨by rfl, ?_⟩) (by assumption) ?_
              case refine_2 => (intro w hSw; (try dsimp only at hSw); clear hSw; go_simp <;> with_reducible rfl)
              simp only [Act.put, List.setIfInBounds_toArray, List.set_cons_zero, List.set_cons_succ]
              refine wpAnyH_take (i := 4) (v := .agg cs3.toArray) (List.getElem?_toArray.trans rfl) (by decide +kernel) (by decide +kernel) (by decide +kernel) (fun _ _ _ h => h) ?_ (by assumption) ?_
              · exact yieldsIf_load_mid (by rfl) 35 _ (by rfl) b3 0 (by rfl) cs3 _ (fun _ h => h.2.2.1) Tryd.underlying35 (by rfl) HSZ3.out
              simp only [Act.put, List.setIfInBounds_toArray, List.set_cons_zero, List.set_cons_succ]
              refine wpAnyH_take (i := 5) (v := .agg cs4.toArray) (List.getElem?_toArray.trans rfl) (by decide +kernel) (by decide +kernel) (by decide +kernel) (fun _ _ _ h => h) ?_ (by assumption) ?_
              · exact yieldsIf_load_mid (by rfl) 35 _ (by rfl) b4 0 (by rfl) cs4 _ (fun _ h => h.2.2.2) Tryd.underlying35 (by rfl) HSZ4.out
              simp only [Act.put, List.setIfInBounds_toArray, List.set_cons_zero, List.set_cons_succ]
              refine wpAnyH_ready (rs := [6]) (by decide +kernel) (by simp) ?_
              refine AllReadyH.cons (List.getElem?_toArray.trans rfl) (fun K hK => ?_) AllReadyH.nil
              go_simp
              go_at_call 12; (with_reducible refine (SK34.out _ HB0.out).mono ?_); rintro e wc ⟨rfl, hbn⟩; replace HB0 := Lib.hid (HB0.out.trans (hbn.mono HB0.out.size)); have hP := HPS.out _ HB0.out; clear hbn
              refine hK.out _ _ hP (fun hHeld => ?_)
              clear hK K
              refine wpAnyH_take (i := 7) (v := ?_) (List.getElem?_toArray.trans rfl) (by decide +kernel) (by decide +kernel) (by decide +kernel) (fun _ _ _ h => h) (Or.inl ⟨by rfl, ?_⟩) (by assumption) ?_
              case refine_2 => (intro w hSw; (try dsimp only at hSw); clear hSw; go_simp <;> with_reducible rfl)
              simp only [Act.put, List.setIfInBounds_toArray, List.set_cons_zero, List.set_cons_succ]
              refine wpAnyH_take (i := 8) (v := ?_) (List.getElem?_toArray.trans rfl) (by decide +kernel) (by decide +kernel) (by decide +kernel) (fun _ _ _ h => h) (Or.inl ⟨by rfl, ?_⟩) (by assumption) ?_
              case refine_2 => (intro w hSw; (try dsimp only at hSw); clear hSw; go_simp <;> with_reducible rfl)
              simp only [Act.put, List.setIfInBounds_toArray, List.set_cons_zero, List.set_cons_succ]
              refine wpAnyH_take (i := 9) (v := .agg cs3.toArray) (List.getElem?_toArray.trans rfl) (by decide +kernel) (by decide +kernel) (by decide +kernel) (fun _ _ _ h => h) ?_ (by assumption) ?_
              · exact yieldsIf_load_mid (by rfl) 35 _ (by rfl) b3 0 (by rfl) cs3 _ (fun _ h => h.2.2.1) Tryd.underlying35 (by rfl) HSZ3.out
              simp only [Act.put, List.setIfInBounds_toArray, List.set_cons_zero, List.set_cons_succ]
              refine wpAnyH_take (i := 10) (v := ?_) (List.getElem?_toArray.trans rfl) (by decide +kernel) (by decide +kernel) (by decide +kernel) (fun _ _ _ h => h) (Or.inl ⟨by rfl, ?_⟩) (by assumption) ?_
              case refine_2 => (intro w hSw; (try dsimp only at hSw); clear hSw; go_simp <;> with_reducible rfl)
              simp only [Act.put, List.setIfInBounds_toArray, List.set_cons_zero, List.set_cons_succ]
              refine wpAnyH_ready (rs := [11]) (by decide +kernel) (by simp) ?_
              refine AllReadyH.cons (List.getElem?_toArray.trans rfl) (fun K hK => ?_) AllReadyH.nil
              go_simp
              go_at_call 8; (with_reducible refine (LK3.out _ HB0.out).mono ?_); rintro e wc ⟨rfl, hbn⟩; replace HB0 := Lib.hid (HB0.out.trans (hbn.mono HB0.out.size)); have hP := HPS.out _ HB0.out; clear hbn
              refine hK.out _ _ hP (fun hHeld => ?_)
              clear hK K
              refine wpAnyH_take (i := 12) (v := ?_) (List.getElem?_toArray.trans rfl) (by decide +kernel) (by decide +kernel) (by decide +kernel) (fun _ _ _ h => h) (Or.inl ⟨by rfl, ?_⟩) (by assumption) ?_
              case refine_2 => (intro w hSw; (try dsimp only at hSw); clear hSw; go_simp <;> with_reducible rfl)
              simp only [Act.put, List.setIfInBounds_toArray, List.set_cons_zero, List.set_cons_succ]
              refine wpAnyH_take (i := 13) (v := ?_) (List.getElem?_toArray.trans rfl) (by decide +kernel) (by decide +kernel) (by decide +kernel) (fun _ _ _ h => h) (Or.inl ⟨by rfl, ?_⟩) (by assumption) ?_
              case refine_2 => (intro w hSw; (try dsimp only at hSw); clear hSw; go_simp <;> with_reducible rfl)
              simp only [Act.put, List.setIfInBounds_toArray, List.set_cons_zero, List.set_cons_succ]
              refine wpAnyH_take (i := 14) (v := .agg cs1.toArray) (List.getElem?_toArray.trans rfl) (by decide +kernel) (by decide +kernel) (by decide +kernel) (fun _ _ _ h => h) ?_ (by assumption) ?_
              · exact yieldsIf_load_mid (by rfl) 35 _ (by rfl) b1 0 (by rfl) cs1 _ (fun _ h => h.1) Tryd.underlying35 (by rfl) HSZ1.out
              simp only [Act.put, List.setIfInBounds_toArray, List.set_cons_zero, List.set_cons_succ]
              refine wpAnyH_take (i := 15) (v := .agg cs2.toArray) (List.getElem?_toArray.trans rfl) (by decide +kernel) (by decide +kernel) (by decide +kernel) (fun _ _ _ h => h) ?_ (by assumption) ?_
              · exact yieldsIf_load_mid (by rfl) 35 _ (by rfl) b2 0 (by rfl) cs2 _ (fun _ h => h.2.1) Tryd.underlying35 (by rfl) HSZ2.out
              simp only [Act.put, List.setIfInBounds_toArray, List.set_cons_zero, List.set_cons_succ]
              refine wpAnyH_take (i := 17) (v := .agg cs1.toArray) (List.getElem?_toArray.trans rfl) (by decide +kernel) (by decide +kernel) (by decide +kernel) (fun _ _ _ h => h) ?_ (by assumption) ?_
              · exact yieldsIf_load_mid (by rfl) 35 _ (by rfl) b1 0 (by rfl) cs1 _ (fun _ h => h.1) Tryd.underlying35 (by rfl) HSZ1.out
              simp only [Act.put, List.setIfInBounds_toArray, List.set_cons_zero, List.set_cons_succ]
              refine wpAnyH_take (i := 18) (v := ?_) (List.getElem?_toArray.trans rfl) (by decide +kernel) (by decide +kernel) (by decide +kernel) (fun _ _ _ h => h) (Or.inl ⟨by rfl, ?_⟩) (by assumption) ?_
              case refine_2 => (intro w hSw; (try dsimp only at hSw); clear hSw; go_simp <;> with_reducible rfl)
              simp only [Act.put, List.setIfInBounds_toArray, List.set_cons_zero, List.set_cons_succ]
              refine wpAnyH_ready (rs := [16]) (by decide +kernel) (by simp) ?_
              refine AllReadyH.cons (List.getElem?_toArray.trans rfl) (fun K hK => ?_) AllReadyH.nil
              go_simp
              go_at_call 12; (with_reducible refine (SK12.out _ HB0.out).mono ?_); rintro e wc ⟨rfl, hbn⟩; replace HB0 := Lib.hid (HB0.out.trans (hbn.mono HB0.out.size)); have hP := HPS.out _ HB0.out; clear hbn
              refine hK.out _ _ hP (fun hHeld => ?_)
              clear hK K
              refine wpAnyH_ready (rs := [19]) (by decide +kernel) (by simp) ?_
              refine AllReadyH.cons (List.getElem?_toArray.trans rfl) (fun K hK => ?_) AllReadyH.nil
              go_simp
              go_at_call 8; (with_reducible refine (LK12.out _ HB0.out).mono ?_); rintro e wc ⟨rfl, hbn⟩; replace HB0 := Lib.hid (HB0.out.trans (hbn.mono HB0.out.size)); have hP := HPS.out _ HB0.out; clear hbn
              refine hK.out _ _ hP (fun hHeld => ?_)
              clear hK K
              refine wpAnyH_take (i := 20) (v := ?_) (List.getElem?_toArray.trans rfl) (by decide +kernel) (by decide +kernel) (by decide +kernel) (fun _ _ _ h => h) (Or.inl ⟨by rfl, ?_⟩) (by assumption) ?_
              case refine_2 => (intro w hSw; (try dsimp only at hSw); clear hSw; go_simp <;> with_reducible rfl)
              simp only [Act.put, List.setIfInBounds_toArray, List.set_cons_zero, List.set_cons_succ]
              refine wpAnyH_take (i := 21) (v := .agg cs2.toArray) (List.getElem?_toArray.trans rfl) (by decide +kernel) (by decide +kernel) (by decide +kernel) (fun _ _ _ h => h) ?_ (by assumption) ?_
              · exact yieldsIf_load_mid (by rfl) 35 _ (by rfl) b2 0 (by rfl) cs2 _ (fun _ h => h.2.1) Tryd.underlying35 (by rfl) HSZ2.out
              simp only [Act.put, List.setIfInBounds_toArray, List.set_cons_zero, List.set_cons_succ]
              refine wpAnyH_take (i := 22) (v := ?_) (List.getElem?_toArray.trans rfl) (by decide +kernel) (by decide +kernel) (by decide +kernel) (fun _ _ _ h => h) (Or.inl ⟨by rfl, ?_⟩) (by assumption) ?_
              case refine_2 => (intro w hSw; (try dsimp only at hSw); clear hSw; go_simp <;> with_reducible rfl)
              simp only [Act.put, List.setIfInBounds_toArray, List.set_cons_zero, List.set_cons_succ]
              refine wpAnyH_ready (rs := [23]) (by decide +kernel) (by simp) ?_
              refine AllReadyH.cons (List.getElem?_toArray.trans rfl) (fun K hK => ?_) AllReadyH.nil
              go_simp
              go_at_call 8; (with_reducible refine (LK21.out _ HB0.out).mono ?_); rintro e wc ⟨rfl, hbn⟩; replace HB0 := Lib.hid (HB0.out.trans (hbn.mono HB0.out.size)); have hP := HPS.out _ HB0.out; clear hbn
              refine hK.out _ _ hP (fun hHeld => ?_)
              clear hK K
              refine wpAnyH_take (i := 24) (v := ?_) (List.getElem?_toArray.trans rfl) (by decide +kernel) (by decide +kernel) (by decide +kernel) (fun _ _ _ h => h) (Or.inl ⟨by rfl, ?_⟩) (by assumption) ?_
              case refine_2 => (intro w hSw; (try dsimp only at hSw); clear hSw; go_simp <;> with_reducible rfl)
              simp only [Act.put, List.setIfInBounds_toArray, List.set_cons_zero, List.set_cons_succ]
              refine wpAnyH_take (i := 25) (v := ?_) (List.getElem?_toArray.trans rfl) (by decide +kernel) (by decide +kernel) (by decide +kernel) (fun _ _ _ h => h) (Or.inl ⟨by rfl, ?_⟩) (by assumption) ?_
              case refine_2 => (intro w hSw; (try dsimp only at hSw); clear hSw; go_simp <;> with_reducible rfl)
              simp only [Act.put, List.setIfInBounds_toArray, List.set_cons_zero, List.set_cons_succ]
              refine wpAnyH_take (i := 26) (v := ?_) (List.getElem?_toArray.trans rfl) (by decide +kernel) (by decide +kernel) (by decide +kernel) (fun _ _ _ h => h) (Or.inl ⟨by rfl, ?_⟩) (by assumption) ?_
              case refine_2 => (intro w hSw; (try dsimp only at hSw); clear hSw; go_simp <;> with_reducible rfl)
              simp only [Act.put, List.setIfInBounds_toArray, List.set_cons_zero, List.set_cons_succ]
              refine wpAnyH_take (i := 27) (v := ?_) (List.getElem?_toArray.trans rfl) (by decide +kernel) (by decide +kernel) (by decide +kernel) (fun _ _ _ h => h) (Or.inl ⟨by rfl, ?_⟩) (by assumption) ?_
              case refine_2 => (intro w hSw; (try dsimp only at hSw); clear hSw; go_simp <;> with_reducible rfl)
              simp only [Act.put, List.setIfInBounds_toArray, List.set_cons_zero, List.set_cons_succ]
              refine wpAnyH_take (i := 28) (v := .agg cs1.toArray) (List.getElem?_toArray.trans rfl) (by decide +kernel) (by decide +kernel) (by decide +kernel) (fun _ _ _ h => h) ?_ (by assumption) ?_
              · exact yieldsIf_load_mid (by rfl) 35 _ (by rfl) b1 0 (by rfl) cs1 _ (fun _ h => h.1) Tryd.underlying35 (by rfl) HSZ1.out
              simp only [Act.put, List.setIfInBounds_toArray, List.set_cons_zero, List.set_cons_succ]
              refine wpAnyH_take (i := 29) (v := .agg cs1.toArray) (List.getElem?_toArray.trans rfl) (by decide +kernel) (by decide +kernel) (by decide +kernel) (fun _ _ _ h => h) ?_ (by assumption) ?_
              · exact yieldsIf_load_mid (by rfl) 35 _ (by rfl) b1 0 (by rfl) cs1 _ (fun _ h => h.1) Tryd.underlying35 (by rfl) HSZ1.out
              simp only [Act.put, List.setIfInBounds_toArray, List.set_cons_zero, List.set_cons_succ]
              refine wpAnyH_ready (rs := [30]) (by decide +kernel) (by simp) ?_
              refine AllReadyH.cons (List.getElem?_toArray.trans rfl) (fun K hK => ?_) AllReadyH.nil
              go_simp
              go_at_call 12; (with_reducible refine (SK11.out _ HB0.out).mono ?_); rintro e wc ⟨rfl, hbn⟩; replace HB0 := Lib.hid (HB0.out.trans (hbn.mono HB0.out.size)); have hP := HPS.out _ HB0.out; clear hbn
              refine hK.out _ _ hP (fun hHeld => ?_)
              clear hK K
              refine wpAnyH_take (i := 31) (v := ?_) (List.getElem?_toArray.trans rfl) (by decide +kernel) (by decide +kernel) (by decide +kernel) (fun _ _ _ h => h) (Or.inl ⟨by rfl, ?_⟩) (by assumption) ?_
              case refine_2 => (intro w hSw; (try dsimp only at hSw); clear hSw; go_simp <;> with_reducible rfl)
              simp only [Act.put, List.setIfInBounds_toArray, List.set_cons_zero, List.set_cons_succ]
              refine wpAnyH_take (i := 32) (v := ?_) (List.getElem?_toArray.trans rfl) (by decide +kernel) (by decide +kernel) (by decide +kernel) (fun _ _ _ h => h) (Or.inl ⟨by rfl, ?_⟩) (by assumption) ?_
              case refine_2 => (intro w hSw; (try dsimp only at hSw); clear hSw; go_simp <;> with_reducible rfl)
              simp only [Act.put, List.setIfInBounds_toArray, List.set_cons_zero, List.set_cons_succ]
              refine wpAnyH_done (by decide +kernel) ?_ _
              refine NoPanic.normal ?_
              go_wp2_with fail
              go_ret
              exact ⟨rfl, HW9.out.trans (HB0.out.mono HW9.out.size)⟩
end Go.Proofs.YtcmhodimkpkmbaaDoor
end
section
namespace Go.Proofs.YtcmhodimkpkmbaaDoor
open Go.ChangeShapes Go.WideShapes Go.ChangeAt Go.RowKit

/-- a slice of integers that came in: none, or a row of cells, spare ones too -/
def RowIn (k : IntKind) (w : World) (a : Option Addr) (len cap : Nat) (zs : List Int) : Prop :=
  (a = none ∧ len = 0 ∧ cap = 0 ∧ zs = []) ∨
  ∃ x, a = some x ∧ len ≤ cap ∧ cap ≤ maxLen ∧ zs.length = cap ∧ (∀ i, i < zs.length → w.cell? (x.add i) = some (.int k (zs.getD i 0))) ∧ ∀ n ∈ zs, (Lit.int k n).wf = true

theorem u8_of {z : Int} (h : (Lit.int .u8 z).wf = true) : ∃ x : UInt8, z = (x.toNat : Int) := by
  have hb := bounds_u8 h
  refine ⟨UInt8.ofNat z.toNat, ?_⟩
  have : (UInt8.ofNat z.toNat).toNat = z.toNat % 256 := by simp
  omega

theorem bs_of_rowIn {w : World} {a : Option Addr} {len cap : Nat} {zs : List Int} (h : RowIn .u8 w a len cap zs) : ∃ l : List UInt8, Bs w w.heap.size a len l ∧ len ≤ cap := by
  rcases h with ⟨rfl, rfl, rfl, rfl⟩ | ⟨x, rfl, hl, hm, hz, hcell, hwz⟩
  · exact ⟨[], Bs.nil _ _ _, Nat.le_refl _⟩
  · refine ⟨(zs.take len).map fun z => UInt8.ofNat z.toNat, ⟨by simp; omega, fun h0 => ?_⟩, hl⟩
    obtain ⟨b, off, spot⟩ := x
    have hc0 := hcell 0 (by omega)
    have hspot : spot = none := by simpa [Addr.add] using World.cell?_spot hc0
    subst hspot
    refine ⟨b, off, rfl, ?_, fun j hj => ?_⟩
    · have := World.block_lt_of_cell? w _ hc0
      rwa [block_of_add] at this
    · have hj' : j < zs.length := by simp at hj; omega
      have hc := hcell j hj'
      have e : (⟨b, off, none⟩ : Addr).add j = ⟨b, off + j, none⟩ := by
        simp only [Addr.add]
        split <;> simp_all
      rw [e] at hc
      rw [hc]
      obtain ⟨x, hx⟩ := u8_of (hwz zs[j] (List.getElem_mem hj'))
      rw [List.getElem_map, List.getElem_take, List.getD_eq_getElem?_getD, List.getElem?_eq_getElem hj', Option.getD_some, hx]
      simp
end Go.Proofs.YtcmhodimkpkmbaaDoor
end
section
namespace Go.Proofs.YtcmhodimkpkmbaaDoor
open Go.ChangeShapes Go.WideShapes Go.ChangeAt Go.RowKit Go.Deep
set_option maxRecDepth 100000

theorem cellsDeed19 : Tryd.prog.cellsOf 52 = 9 := by kernel_rfl
theorem cellsBind19 : Tryd.prog.cellsOf 25 = 5 := by kernel_rfl
theorem cellsAddr19 : Tryd.prog.cellsOf 30 = 2 := by kernel_rfl
theorem cellsInt19 : Tryd.prog.cellsOf 3 = 1 := by kernel_rfl
theorem cellsString19 : Tryd.prog.cellsOf 9 = 1 := by kernel_rfl
theorem ilist_of {α : Type} {R : Nat → α → Prop} : ∀ (n : Nat), (∀ i, i < n → ∃ p, R i p) → ∃ L : List α, L.length = n ∧ ∀ j (h : j < L.length), R j L[j]
  | 0, _ => ⟨[], rfl, fun j h => absurd h (by simp)⟩
  | n + 1, h => by
    obtain ⟨L, hl, hr⟩ := ilist_of n fun i hi => h i (by omega)
    obtain ⟨p, hp⟩ := h n (by omega)
    refine ⟨L ++ [p], by simp [hl], fun j hj => ?_⟩
    by_cases e : j < L.length
    · rw [List.getElem_append_left e]; exact hr j e
    · have : j = n := by simp at hj; omega
      subst this
      rw [List.getElem_append_right (by omega)]
      simpa [hl] using hp
section
variable {H : Type} {enc : TypeId × Value → H} {W : World}
/-- a deed's nine cells -/
theorem ideed_of {base n : Nat} {held : Bool} {cs : List Value} {x : DataW H × List MemPlace} (hl : cs.length = 9)
    (h : DataW.trod enc Tryd.prog W base (fun _ => true) held n 52 cs = some x) : ∃ d : Ix.Deed, cs = ddC d := by
  obtain ⟨xs, m, _, _, _, hlen, hg⟩ := DataW.trod_struct Tryd.underlying52 h
  match xs, hlen with
  | [y0, y1, y2, y3], _ =>
    match cs, hl with
    | [c0, c1, c2, c3, c4, c5, c6, c7, c8], _ =>
      have g0 := hg 0 _ rfl
      have g1 := hg 1 _ rfl
      have g2 := hg 2 _ rfl
      have g3 := hg 3 _ rfl
      change DataW.trod enc Tryd.prog W base (fun _ => true) held m 3 (List.take (Tryd.prog.cellsOf 3) (List.drop 0 [c0, c1, c2, c3, c4, c5, c6, c7, c8])) = some y0 at g0
      change DataW.trod enc Tryd.prog W base (fun _ => true) held m 25 (List.take (Tryd.prog.cellsOf 25) (List.drop 1 [c0, c1, c2, c3, c4, c5, c6, c7, c8])) = some y1 at g1
      change DataW.trod enc Tryd.prog W base (fun _ => true) held m 3 (List.take (Tryd.prog.cellsOf 3) (List.drop 6 [c0, c1, c2, c3, c4, c5, c6, c7, c8])) = some y2 at g2
      change DataW.trod enc Tryd.prog W base (fun _ => true) held m 30 (List.take (Tryd.prog.cellsOf 30) (List.drop 7 [c0, c1, c2, c3, c4, c5, c6, c7, c8])) = some y3 at g3
      rw [cellsInt19] at g0 g2
      rw [cellsBind19] at g1
      rw [cellsAddr19] at g3
      obtain ⟨a0, e0, -, -⟩ := DataW.trod_int Tryd.underlying3 g0
      obtain ⟨a6, e6, -, -⟩ := DataW.trod_int Tryd.underlying3 g2
      obtain rfl : c0 = .int .i64 a0 := by simpa using e0
      obtain rfl : c6 = .int .i64 a6 := by simpa using e6
      obtain ⟨bs, m1, _, _, _, blen, bg⟩ := DataW.trod_struct Tryd.underlying25 g1
      obtain ⟨ays, m2, _, _, _, alen, ag⟩ := DataW.trod_struct Tryd.underlying30 g3
      match bs, blen with
      | [z0, z1, z2, z3, z4], _ =>
        match ays, alen with
        | [u0, u1], _ =>
          have b0 := bg 0 _ rfl
          have b1 := bg 1 _ rfl
          have b2 := bg 2 _ rfl
          have b3 := bg 3 _ rfl
          have b4 := bg 4 _ rfl
          have d0 := ag 0 _ rfl
          have d1 := ag 1 _ rfl
          change DataW.trod enc Tryd.prog W base (fun _ => true) held m1 3 (List.take (Tryd.prog.cellsOf 3) (List.drop 0 [c1, c2, c3, c4, c5])) = some z0 at b0
          change DataW.trod enc Tryd.prog W base (fun _ => true) held m1 3 (List.take (Tryd.prog.cellsOf 3) (List.drop 1 [c1, c2, c3, c4, c5])) = some z1 at b1
          change DataW.trod enc Tryd.prog W base (fun _ => true) held m1 9 (List.take (Tryd.prog.cellsOf 9) (List.drop 2 [c1, c2, c3, c4, c5])) = some z2 at b2
          change DataW.trod enc Tryd.prog W base (fun _ => true) held m1 3 (List.take (Tryd.prog.cellsOf 3) (List.drop 3 [c1, c2, c3, c4, c5])) = some z3 at b3
          change DataW.trod enc Tryd.prog W base (fun _ => true) held m1 3 (List.take (Tryd.prog.cellsOf 3) (List.drop 4 [c1, c2, c3, c4, c5])) = some z4 at b4
          change DataW.trod enc Tryd.prog W base (fun _ => true) held m2 3 (List.take (Tryd.prog.cellsOf 3) (List.drop 0 [c7, c8])) = some u0 at d0
          change DataW.trod enc Tryd.prog W base (fun _ => true) held m2 3 (List.take (Tryd.prog.cellsOf 3) (List.drop 1 [c7, c8])) = some u1 at d1
          rw [cellsInt19] at b0 b1 b3 b4 d0 d1
          rw [cellsString19] at b2
          obtain ⟨a1, e1, -, -⟩ := DataW.trod_int Tryd.underlying3 b0
          obtain ⟨a2, e2, -, -⟩ := DataW.trod_int Tryd.underlying3 b1
          obtain ⟨a3, e3, -, -⟩ := DataW.trod_string Tryd.underlying9 b2
          obtain ⟨a4, e4, -, -⟩ := DataW.trod_int Tryd.underlying3 b3
          obtain ⟨a5, e5, -, -⟩ := DataW.trod_int Tryd.underlying3 b4
          obtain ⟨a7, e7, -, -⟩ := DataW.trod_int Tryd.underlying3 d0
          obtain ⟨a8, e8, -, -⟩ := DataW.trod_int Tryd.underlying3 d1
          obtain rfl : c1 = .int .i64 a1 := by simpa using e1
          obtain rfl : c2 = .int .i64 a2 := by simpa using e2
          obtain rfl : c3 = .string a3 := by simpa using e3
          obtain rfl : c4 = .int .i64 a4 := by simpa using e4
          obtain rfl : c5 = .int .i64 a5 := by simpa using e5
          obtain rfl : c7 = .int .i64 a7 := by simpa using e7
          obtain rfl : c8 = .int .i64 a8 := by simpa using e8
          exact ⟨⟨a0, ⟨a1, a2, a3, a4, a5⟩, a6, (a7, a8)⟩, rfl⟩
theorem open_ideed {base : Nat} {held : Bool} {r : Reach} {b0 : Nat} {v : Value} {d : DataW H} {p : List MemPlace} (hv : Value.okWide Tryd.prog W r b0 52 v) (h : DataW.Trod enc Tryd.prog W base (fun _ => true) held 52 v d p) :
    ∃ x : Ix.Deed, v = .agg (ddC x).toArray := by
  obtain ⟨cs, rfl, hsz⟩ := okWide_struct Tryd.underlying52 hv
  obtain ⟨fuel, hf⟩ := h
  have hl : cs.toList.length = 9 := by rw [Array.length_toList, hsz]; exact cellsDeed19
  obtain ⟨x, hx⟩ := ideed_of (cs := cs.toList) hl (by simpa [Value.cells] using hf)
  exact ⟨x, by rw [← hx]⟩
theorem open_ideeds {n : Nat} {held : Bool} {A : Option Addr} {len cap : Nat} {x : DataW H × List MemPlace} (h : DataW.trod enc Tryd.prog W 0 (fun _ => true) held n 22 [.slice A len cap] = some x) :
    ∃ L : List Ix.Deed, Dv W W.heap.size A len L := by
  rcases open_slice Tryd.underlying22 h with ⟨hcs, rfl⟩ | ⟨a, l, c, m, n', D, Pl, hcs, _, hlc, hm, hmm, rfl, hi⟩
  · simp at hcs
    obtain ⟨rfl, rfl, rfl⟩ := hcs
    exact ⟨[], rfl, fun h => absurd h (by omega)⟩
  · simp at hcs
    obtain ⟨rfl, rfl, rfl⟩ := hcs
    simp only [if_true] at hmm
    subst hmm
    by_cases hl0 : len = 0
    · subst hl0
      exact ⟨[], rfl, fun h => absurd h (by omega)⟩
    obtain ⟨b, off, spot⟩ := a
    have hsp : spot = none := by
      obtain ⟨cs', hc, _⟩ := hi 0 (by omega)
      rw [cellsDeed19] at hc
      obtain ⟨_, hl3, hcell⟩ := World.cells?_some hc
      have h0 := hcell 0 (by omega)
      rw [List.getElem?_eq_getElem (by omega)] at h0
      simpa [Addr.add] using World.cell?_spot h0
    subst hsp
    have ea (j k : Nat) : ((⟨b, off, none⟩ : Addr).add j).add k = ⟨b, off + j + k, none⟩ := by
      simp only [Addr.add]
      split <;> split <;> simp_all
    have hR : ∀ i, i < len → ∃ d : Ix.Deed, ∀ k, k < 9 → W.cell? ⟨b, off + i * 9 + k, none⟩ = (ddC d)[k]? := by
      intro i hil
      obtain ⟨cs', hc, ht⟩ := hi i (by omega)
      rw [cellsDeed19] at hc
      obtain ⟨_, hl3, hcell⟩ := World.cells?_some hc
      obtain ⟨d, rfl⟩ := ideed_of (W := W) hl3 ht
      exact ⟨d, fun k hk => by rw [← ea]; exact hcell k hk⟩
    obtain ⟨L, hL, hP⟩ := ilist_of len hR
    refine ⟨L, by rw [ddV_length, hL], fun h0 => ⟨b, off, rfl, ?_, fun j hj => ?_⟩⟩
    · refine World.block_lt_of_cell? W _ (u := .int .i64 L[0].kind) ((hP 0 (by omega) 0 (by omega)).trans rfl)
    · rw [ddV_length] at hj
      have hq : j / 9 < L.length := by omega
      have e := hP (j / 9) hq (j % 9) (by omega)
      rw [show off + j / 9 * 9 + j % 9 = off + j by omega, ← ddV_get L (j / 9) hq (j % 9) (by omega), show j / 9 * 9 + j % 9 = j by omega] at e
      rw [e, List.getElem?_eq_getElem (by rw [ddV_length]; exact hj)]
end
end Go.Proofs.YtcmhodimkpkmbaaDoor
end
section
namespace Go.Proofs.YtcmhodimkpkmbaaDoor
open Go.ChangeShapes Go.WideShapes Go.ChangeAt Go.RowKit

section
variable {H : Type} {enc : TypeId × Value → H} {P : Program}
theorem post_of_below {f : Func} {s : ChangeSpec} {apart fresh handsOn again : Bool} {W W' : World} {args : Array Value} {v : Value} {ds gs : List (DataW H)} {before pa pv : List MemPlace}
    (hW : DataW.Whole enc P f.params.toList s.vars apart W args.toList ds gs before)
    (hres : ∀ (b : Nat) (sp : Nat → Bool) (hd : Bool), DataW.TrodAll enc P W' b sp hd f.resultTypes.toList (v.resultList f.resultTypes.size) (s.fn H (ds ++ gs)).results [])
    (hargs : ∀ sp : Nat → Bool, (∀ p ∈ before, sp p.block = true) → DataW.TrodAll enc P W' 0 sp true f.params.toList args.toList (s.fn H (ds ++ gs)).args pa)
    (hvars : ∀ sp : Nat → Bool, (∀ p ∈ before, sp p.block = true) → DataW.TrodVars enc P W' sp s.vars (s.fn H (ds ++ gs)).vars pv)
    (hps : before = pa ++ pv) (hb : Below W.heap.size W W')
    (hok : ∀ (j : Nat) (t : TypeId) (r : Value), f.resultTypes[j]? = some t → (v.resultList f.resultTypes.size)[j]? = some r → Value.okWide P W' .any 0 t r) :
    s.post enc P f apart fresh handsOn again W args v W' := by
  have hlt : ∀ p ∈ before, p.block < W.heap.size := fun p hp => hW.lt p hp
  have hold : ∀ p ∈ before, (fun b => decide (b < W.heap.size)) p.block = true := fun p hp => by simpa using hlt p hp
  refine ⟨ds, gs, before, [], pa, pv, hW, hres _ _ _, hargs _ hold, hvars _ hold, World.keptBut_mono (fun p hp => ⟨hp, ?_⟩) (hb.frame (· ∈ before)), fun _ => ?_⟩
  · rw [hps, List.mem_append] at hp
    exact Or.inr hp
  · obtain ⟨_, _, _, _, _, hz, hn⟩ := hW
    refine ⟨hok, _, _, ([] ++ pa) ++ pv, ⟨[] ++ pa, pv, trodAll_append (hargs _ (fun _ _ => rfl)) (hres _ _ _), hvars _ (fun _ _ => rfl), rfl, ?_, ?_⟩, ?_⟩
    · intro b off hp
      have hin : MemPlace.cell b off ∈ before := by rw [hps]; simpa using hp
      rw [hb.frozen (hlt _ hin)]
      exact hz b off hin
    · intro ha
      have := hn ha
      rw [hps] at this
      simpa using this
    · intro p hp _
      rw [hps]
      simpa using hp
end

end Go.Proofs.YtcmhodimkpkmbaaDoor
end
section
namespace Go.Proofs.YtcmhodimkpkmbaaDoor
open Go.ChangeShapes Go.WideShapes Go.ChangeAt Go.RowKit

theorem gTab64Type : (Tryd.prog.globals[0]?).map (·.type) = some 92 := by kernel_rfl
theorem cellsTab64 : Tryd.prog.cellsOf 92 = 64 := by kernel_rfl
theorem cellsU8 : Tryd.prog.cellsOf 5 = 1 := by kernel_rfl
theorem table64_one {W : World} (h : laidMetH Tryd.prog [("math/bits.deBruijn64tab", Rows.laid_math_bits_deBruijn64tab)] W) : Tab64 W := by
  have h2 : laidMet Tryd.prog [("math/bits.deBruijn64tab", Lib.tabData .u8 db64)] W := h
  exact Lib.tabBelow_of_tabIs (Lib.tabIs_of_head (rest := []) gDb64 gTab64Type Tryd.underlying92 Tryd.underlying5 cellsU8 cellsTab64 h2)
end Go.Proofs.YtcmhodimkpkmbaaDoor
end
section
namespace Go.Proofs.YtcmhodimkpkmbaaDoor
open Go.ChangeShapes Go.WideShapes Go.ChangeAt Go.RowKit

theorem indexSame_walk (A : Option Addr) (n c : Nat) (L : List Ix.Deed) (x : Ix.Deed) (A9 : Option Addr) (n9 c9 : Nat) (L9 : List Ix.Deed) (W : World) (hL : Dv W W.heap.size A n L) (hL9 : Dv W W.heap.size A9 n9 L9) (ht : Tab64 W) :
    Calls Tryd.prog 4 #[.slice A n c, .agg (ddC x).toArray, .slice A9 n9 c9] W fun e W' => e = .returned (.bool true) ∧ Below W.heap.size W W' :=
  indexSame_any like_any A n c L x A9 n9 c9 L9 W ht hL hL9
end Go.Proofs.YtcmhodimkpkmbaaDoor
end
section
namespace Go.Proofs.YtcmhodimkpkmbaaDoor.indexSame
open Go.ChangeShapes Go.WideShapes Go.ChangeAt Go.RowKit Go.WideMaps
set_option linter.unusedVariables false
theorem own : ownKnob Tryd.prog.godebug = none := by kernel_rfl
theorem laidOut : laidOutB Tryd.prog = true := by kernel_rfl
theorem table {W : World} (h : laidMetH Tryd.prog Rows.indexSameRow.laid W) : Tab64 W := by
  have h1 := h.filter (fun x => x.1 == "math/bits.deBruijn64tab")
  exact table64_one h1

set_option maxRecDepth 100000 in
/-- What the walk gives, for every argument and every world that holds the listed tables. -/
theorem contract (H : Type) (enc : TypeId × Value → H) (W : World) (base : Nat) (args : Array Value) (ds gs : List (DataW H)) (before : List MemPlace)
    (hval0 : ∀ (j : Nat) t v, Tryd.f4.params[j]? = some t → args[j]? = some v → Value.okWide Tryd.prog W .any base t v)
    (hW : DataW.Whole enc Tryd.prog Tryd.f4.params.toList Rows.indexSameSpec.vars false W args.toList ds gs before)
    (hsz0 : (DataW.weightsEach Tryd.prog (Tryd.f4.params.toList ++ (OpenSpec.ofChange Rows.indexSameSpec).bare.plain.varTypes Tryd.prog) (ds ++ gs)).all (· ≤ reachBytes) = true) (hL : laidMetH Tryd.prog Rows.indexSameRow.laid W) :
    Calls Tryd.prog 4 args W fun e W' => ∃ v, e = .returned v ∧ Rows.indexSameSpec.post enc Tryd.prog Tryd.f4 false true false false W args v W' := by
  have hval := hval0
  have hW' := hW
  obtain ⟨p, q, hA0, hV, rfl, hfz, hnd⟩ := hW
  have hA : DataW.TrodAll enc Tryd.prog W 0 (fun _ => true) true Tryd.f4.params.toList args.toList ds p := hA0
  rw [Tryd.params4] at hA hval hsz0
  obtain ⟨v0, vs0, d0, ds0, p0, q0, hargs, rfl, rfl, h0, r0⟩ := trodAll_cons hA
  obtain ⟨v1, vs1, d1, ds1, p1, q1, rfl, rfl, rfl, h1, r1⟩ := trodAll_cons r0
  obtain ⟨v2, vs2, d2, ds2, p2, q2, rfl, rfl, rfl, h2, r2⟩ := trodAll_cons r1
  obtain ⟨rfl, rfl, rfl⟩ := trodAll_nil r2
  obtain rfl : args = #[v0, v1, v2] := by cases args; simp_all
  obtain ⟨rfl, rfl⟩ := trodVars_none hV
  have hsz : (DataW.weightsEach Tryd.prog [22, 52, 22] [d0, d1, d2]).all (· ≤ reachBytes) = true := hsz0
  obtain ⟨A0, n0, c0, rfl⟩ := okWide_slice Tryd.underlying22 (hval 0 22 v0 rfl rfl)
  have k0 := h0
  have lt0 : ∀ x ∈ p0, x.block < W.heap.size := by obtain ⟨m, hm⟩ := k0; exact DataW.trod_lt m _ _ _ hm
  obtain ⟨l0, b0⟩ : ∃ L, Dv W W.heap.size A0 n0 L := by
    obtain ⟨fuel, hf⟩ := h0
    exact open_ideeds hf
  have k1 := h1
  have lt1 : ∀ x ∈ p1, x.block < W.heap.size := by obtain ⟨m, hm⟩ := k1; exact DataW.trod_lt m _ _ _ hm
  obtain ⟨x1, rfl⟩ := open_ideed (hval 1 52 v1 rfl rfl) h1
  obtain ⟨A2, n2, c2, rfl⟩ := okWide_slice Tryd.underlying22 (hval 2 22 v2 rfl rfl)
  have k2 := h2
  have lt2 : ∀ x ∈ p2, x.block < W.heap.size := by obtain ⟨m, hm⟩ := k2; exact DataW.trod_lt m _ _ _ hm
  obtain ⟨l2, b2⟩ : ∃ L, Dv W W.heap.size A2 n2 L := by
    obtain ⟨fuel, hf⟩ := h2
    exact open_ideeds hf
  clear hA0 hval0
  refine (indexSame_walk A0 n0 c0 l0 x1 A2 n2 c2 l2 W b0 b2 (table hL)).mono fun e W' ⟨he, bel⟩ => ?_
  subst he
  exact ⟨_, rfl, _, _, _, [], _, [], hW', trodAll_mk1 (shut_bool Tryd.underlying4 _), (trodAll_cons_mk (Below.trod laidOut (by kernel_rfl) (of_decide_eq_true (by kernel_rfl)) k0 bel lt0) (trodAll_cons_mk (Below.trod laidOut (by kernel_rfl) (of_decide_eq_true (by kernel_rfl)) k1 bel lt1) (trodAll_cons_mk (Below.trod laidOut (by kernel_rfl) (of_decide_eq_true (by kernel_rfl)) k2 bel lt2) trodAll_mk0))), rfl, bel.frame _, fun h => by cases h⟩

theorem laid_met (os : Os) : laidMetH Tryd.prog Rows.indexSameRow.laid ((World.doorLaid Tryd.prog 400 os).forCall (fun _ _ => 0) ⟨#[], #[.slice none 0 0, .agg #[.int .i64 0, .int .i64 0, .int .i64 0, .string ⟨#[]⟩, .int .i64 0, .int .i64 0, .int .i64 0, .int .i64 0, .int .i64 0], .slice none 0 0], []⟩).memory :=
  laidMet_of_run' 8 (by kernel_rfl) (by kernel_rfl)
theorem reads (os : Os) {H : Type} (enc : TypeId × Value → H) : ∃ places, DataW.whole enc Tryd.prog ((World.doorLaid Tryd.prog 400 os).forCall (fun _ _ => 0) ⟨#[], #[.slice none 0 0, .agg #[.int .i64 0, .int .i64 0, .int .i64 0, .string ⟨#[]⟩, .int .i64 0, .int .i64 0, .int .i64 0, .int .i64 0, .int .i64 0], .slice none 0 0], []⟩).memory Tryd.f4.params.toList Rows.indexSameSpec.vars false (#[.slice none 0 0, .agg #[.int .i64 0, .int .i64 0, .int .i64 0, .string ⟨#[]⟩, .int .i64 0, .int .i64 0, .int .i64 0, .int .i64 0, .int .i64 0], .slice none 0 0] : Array Value).toList 8 = some ([.nil, .agg [.lit (.int .i64 0), .agg [.lit (.int .i64 0), .lit (.int .i64 0), .lit (.string []), .lit (.int .i64 0), .lit (.int .i64 0)], .lit (.int .i64 0), .agg [.lit (.int .i64 0), .lit (.int .i64 0)]], .nil], [], places) :=
  ⟨[], by kernel_rfl⟩

set_option maxRecDepth 100000 in
theorem lifted (os : Os) (started : os.Started) (H : Type) (enc : TypeId × Value → H) (F : Stop.Interp) :
    ReturnsInHanded {} Tryd.checked os 4 .any ((OpenSpec.ofChange Rows.indexSameSpec).preRow enc Tryd.prog Tryd.f4 Rows.indexSameRow.domain false Rows.indexSameRow.laid) (((OpenSpec.ofChange Rows.indexSameSpec).at F).post enc Tryd.prog Tryd.f4 false true false false) := by
  obtain ⟨places, hx⟩ := reads os enc
  refine returnsInHanded_of_row (C := Tryd.checked) (s := OpenSpec.ofChange Rows.indexSameSpec) own started (by kernel_rfl) Tryd.func4
    (witness_row_at (enc := enc) (C := Tryd.checked) false (World.doorLaid Tryd.prog 400 os) #[.slice none 0 0, .agg #[.int .i64 0, .int .i64 0, .int .i64 0, .string ⟨#[]⟩, .int .i64 0, .int .i64 0, .int .i64 0, .int .i64 0, .int .i64 0], .slice none 0 0] rfl (by kernel_rfl) (by kernel_rfl) (by kernel_rfl)
      (OpenSpec.preRow_of_cond 8 hx (by kernel_rfl) (fun k hk => by cases hk) (by kernel_rfl) (laid_met os))) ?_
  intro W base args ds gs before hval hW _ _ hsz hL _ _
  exact contract H enc W base args ds gs before hval hW hsz hL

theorem said : Rows.IndexSameSaid :=
  OpenClaim.holds_of_cond 4 Tryd.f4 rfl rfl rfl rfl rfl rfl rfl ⟨rfl, rfl, rfl, rfl, rfl⟩ rfl rfl rfl rfl rfl (by kernel_rfl) Tryd.func4 (by kernel_rfl)
    (of_decide_eq_true (by kernel_rfl)) (by unfold Func.isWrapper; first | (rw [if_pos (by decide +kernel)]; kernel_rfl) | (rw [if_neg (by decide +kernel)]; exact ⟨rfl, rfl⟩))
    (fun os started H enc _ F => by rw [OpenClaim.pre_eq_preRow]; exact lifted os started H enc F)

/-- No parameter wants a stand-in; the program's own looks: what the card asks. -/
theorem plain (f : FuncId) (fn : Func) (hf : Tryd.pinned.checked.prog.funcNamed "spence/spencelaw19.IndexSame" = some f) (hfn : Tryd.pinned.checked.prog.funcs[f]? = some fn) :
    false = Tryd.pinned.checked.prog.looks [] ∧ ∀ (j : Nat) t, fn.params[j]? = some t → Tryd.pinned.checked.prog.wantsStandIn t = false := by
  obtain rfl : f = 4 := Option.some.inj ((show Tryd.prog.funcNamed "spence/spencelaw19.IndexSame" = some 4 by kernel_rfl).symm.trans hf) |>.symm
  obtain rfl : fn = Tryd.f4 := (Option.some.inj (Tryd.func4.symm.trans hfn)).symm
  refine ⟨by kernel_rfl, fun j t ht => ?_⟩
  rw [Tryd.params4] at ht
  have hm : t ∈ (#[22, 52, 22] : Array TypeId) := Array.mem_of_getElem? ht
  have hall : ∀ u ∈ (#[22, 52, 22] : Array TypeId), Tryd.prog.wantsStandIn u = false := by
    intro u hu
    simp only [List.mem_toArray, List.mem_cons, List.not_mem_nil, or_false] at hu
    rcases hu with rfl | rfl | rfl
    all_goals kernel_rfl
  exact hall t hm

/-- ████ THE CARD ████ -/
theorem proved : Rows.IndexSameCardSaid :=
  Claim7.holds_tied_plain_at .later [] _ _ _ _ said (fun _ h => by cases h) (by kernel_rfl) (fun _ h => by cases h) indexSame_row_tie rfl ⟨rfl, rfl⟩ (by kernel_rfl) rfl plain (by kernel_rfl)
end Go.Proofs.YtcmhodimkpkmbaaDoor.indexSame
end
