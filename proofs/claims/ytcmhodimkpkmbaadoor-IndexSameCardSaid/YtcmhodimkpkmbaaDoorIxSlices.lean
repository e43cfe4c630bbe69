/-
  What the program's index tells: Slices, as a set of numbers.
-/
import Derived.Test.YtcmhodimkpkmbaaDoorIxGet
import Derived.Test.YtcmhodimkpkmbaaDoorBitAny
import Derived.Test.YtcmhodimkpkmbaaDoorBitVar
namespace Go.Proofs.YtcmhodimkpkmbaaDoor
open Go.ChangeShapes Go.WideShapes Go.ChangeAt Go.RowKit Go.Maps
set_option maxRecDepth 100000

/-- the numbers of slices -/
def keysOf (l : List Ix.Sc) : Nat → Bool := fun x => l.any fun z => z.1 == (x : Int)
/-- those that have come -/
def cameOf (l : List Ix.Sc) (left : Lit → Bool) : Nat → Bool := fun x => l.any fun z => z.1 == (x : Int) && !left (il z.1)
theorem look_of_at {l : List Ix.Sc} {x : Int} {d : DataW Value} (h : ∀ zd, (mapD l).atKey (il x) zd = d) : ∃ z ∈ l, z.1 = x := by
  have h1 := h .nil
  have h2 := h (.ptr .nil)
  rw [at_mapD] at h1 h2
  cases hl : Ix.look l x with
  | none =>
    rw [hl] at h1 h2
    rw [← h1] at h2
    cases h2
  | some a =>
    unfold Ix.look at hl
    obtain ⟨z, hz, _⟩ := Option.map_eq_some_iff.1 hl
    exact ⟨z, List.mem_of_find?_eq_some hz, by simpa using List.find?_some hz⟩
theorem came_start (l : List Ix.Sc) : cameOf l (Maps.has (mapD l)) = fun _ => false := by
  funext x
  unfold cameOf
  rw [List.any_eq_false]
  intro z hz
  have : Maps.has (mapD l) (il z.1) = true := by
    unfold mapD
    rw [has_eq, List.any_map, List.any_eq_true]
    exact ⟨z, hz, by show (il z.1).sameKey (il z.1) = true; rw [il_same]; simp⟩
  rw [this]
  simp
theorem came_end {l : List Ix.Sc} {left : Lit → Bool} (h : ∀ k, left k = false) : cameOf l left = keysOf l := by
  funext x
  unfold cameOf keysOf
  simp [h]
theorem came_step {l : List Ix.Sc} {left : Lit → Bool} {x : Int} (hx : ∃ z ∈ l, z.1 = x) (h0 : 0 ≤ x ∧ x ≤ 4096) : insI (cameOf l left) x = cameOf l (fun z => left z && !z.sameKey (il x)) := by
  funext y
  unfold insI mayB
  rw [if_pos (decide_eq_true h0)]
  unfold Bm.ins cameOf
  obtain ⟨z, hz, rfl⟩ := hx
  by_cases e : y = z.1.toNat
  · subst e
    have e2 : ((z.1.toNat : Nat) : Int) = z.1 := by omega
    rw [e2]
    have : (l.any fun q => q.1 == z.1 && !(left (il q.1) && !(il q.1).sameKey (il z.1))) = true := by
      rw [List.any_eq_true]
      exact ⟨z, hz, by rw [il_same]; simp⟩
    rw [this]
    simp
  · have : ∀ q : Ix.Sc, (q.1 == (y : Int) && !(left (il q.1) && !(il q.1).sameKey (il z.1))) = (q.1 == (y : Int) && !left (il q.1)) := fun q => by
      by_cases h1 : q.1 = (y : Int)
      · have h2 : (il q.1).sameKey (il z.1) = false := by
          rw [il_same, beq_eq_false_iff_ne]
          omega
        rw [h2]
        simp
      · have : (q.1 == (y : Int)) = false := by rw [beq_eq_false_iff_ne]; exact h1
        rw [this]
        simp
    simp only [this]
    simp [e]
theorem field_slot (s : Ix.Sl) (mo : Option Nat) (W : World) : (Instr.field 32 (spV s (.map mo)) 0).run Tryd.prog W = .ok (.agg #[.int .i64 s.bind.obj, .int .i64 s.bind.gen, .string s.bind.tag, .int .i64 s.bind.len, .int .i64 s.bind.tick, .map mo]) W := by kernel_rfl
theorem field_map (x0 x1 x2 x3 x4 : Value) (mo : Option Nat) (W : World) : (Instr.field 28 (.agg #[x0, x1, x2, x3, x4, .map mo]) 1).run Tryd.prog W = .ok (.map mo) W := by kernel_rfl
theorem grown_setCells (W : World) (b o : Nat) (vs : List Value) : W.grownBy (W.setCells b o vs) (some b) := by
  have h := Else.setCells vs o W (Else.refl b W)
  exact ⟨h.os, h.tape, h.output, Nat.le_of_eq h.size.symm, fun k _ hk => h.same k (fun e => hk (by rw [e]))⟩
theorem res_slices {U : World} {tm : Array Value} {q : Nat} {ds : List Value} (hd : ds.length = 65) (h4 : tm.getD 4 undef = .pointer (some ⟨q, 0, none⟩)) (hr : U.rangeAt q 0 ds) :
    (results Tryd.f27 tm).run Tryd.prog U = .ok (.agg ds.toArray) U := by
  have h5 : tm[4]?.getD undef = .pointer (some ⟨q, 0, none⟩) := by simpa using h4
  have hl := run_loadVar_mid (P := Tryd.prog) U q 0 76 ds _ hr Tryd.underlying76 (by rfl) (by rw [hd]; exact map_size)
  simp [results, Tryd.results27, h5, asAddr, hl]
/-- where the slices' set stands while they come -/
structure Slw (w wr : World) (mb r : Nat) (l : List Ix.Sc) (left : Lit → Bool) (cnt : Nat) : Prop where
  rg : wr.ranges Tryd.prog 3 rda mb r l.length (mapD l) left cnt
  set : MapAt wr (w.heap.size + 2) (cameOf l left)
  res : MapAt wr (w.heap.size + 1) fun _ => false
  below : Below w.heap.size w wr
  rl : w.heap.size + 2 < r
set_option maxHeartbeats 4000000 in
theorem lxSlices_any {own : Nat → Prop} {w : World} {cs : List Value} {S : Ix.St} (o : Int) (h : LIx own w cs S) (hS : Ix.Ok S) :
    Calls Tryd.prog 27 #[.agg cs.toArray, .int .i64 o] w fun e w' => e = .returned (mapV (keysOf (Ix.see S o).sl)) ∧ Below w.heap.size w w' := by
  obtain ⟨v, hmo, hown, co⟩ := lxOf_any o h
  have hlow : ∀ i, v = .map (some i) → i < w.heap.size := fun i e => h.lt (hown i e)
  have hz := map_zero
  have hz0 := mapC_length fun _ => false
  obtain ⟨z0, hzz⟩ : ∃ z0, z0 = mapC fun _ => false := ⟨_, rfl⟩
  rw [← hzz] at hz hz0
  obtain ⟨w1, hw1⟩ : ∃ w1, w1 = ((w.alloc (.cells cs.toArray 35)).alloc (.cells z0.toArray 76)).alloc (.cells z0.toArray 76) := ⟨_, rfl⟩
  have hb1 : Below w.heap.size w w1 := by rw [hw1]; exact (((Below.refl _ w).alloc (Nat.le_refl _) _).alloc (by simp) _).alloc (by simp; omega) _
  have hs1 : w1.heap.size = w.heap.size + 3 := by rw [hw1]; simp
  have hx1 : IxBox w1 w.heap.size cs := by
    rw [hw1]
    exact (Below.heap_alloc _ _ _ (by simp; omega)).trans ((Below.heap_alloc _ _ _ (by simp)).trans (heap_alloc_new w _))
  have hr1 : MapAt w1 (w.heap.size + 1) fun _ => false := by
    have h9 := heap_alloc_new (w.alloc (.cells cs.toArray 35)) (.cells z0.toArray 76)
    rw [World.size_alloc] at h9
    rw [hw1]
    unfold MapAt
    rw [← hzz]
    exact (Below.heap_alloc _ _ _ (by simp)).trans h9
  have hm1 : MapAt w1 (w.heap.size + 2) fun _ => false := by
    have h9 := heap_alloc_new ((w.alloc (.cells cs.toArray 35)).alloc (.cells z0.toArray 76)) (.cells z0.toArray 76)
    rw [show ((w.alloc (.cells cs.toArray 35)).alloc (.cells z0.toArray 76)).heap.size = w.heap.size + 2 by simp] at h9
    rw [hw1]
    unfold MapAt
    rw [← hzz]
    exact h9
  have HRG := Lib.hid hx1.range
  have HSZ : Hid ((Tryd.prog.info? 35).map (·.size) = some cs.length) := Lib.hid (by rw [h.len]; exact ix_size)
  have HOK := Lib.hid (ok_see hS o)
  obtain ⟨mo, rfl⟩ := hmo.map
  have hf1 := field_slot (Ix.see S o) mo
  have hf2 := field_map
  have HMO := Lib.hid (hmo.below hb1)
  have HB1 := Lib.hid hb1
  have HS1 := Lib.hid hs1
  have HR1 := Lib.hid hr1
  have HM1 := Lib.hid hm1
  have HLOW := Lib.hid hlow
  have HMS := Lib.hid map_size
  obtain ⟨s, hs⟩ : ∃ s, s = Ix.see S o := ⟨_, rfl⟩
  rw [← hs] at HOK co HMO hf1 ⊢
  have HZZ := Lib.hid hzz
  clear h hS hown hlow hb1 hx1 hr1 hm1 hs hs1 hmo hz0 hzz
  cases mo with
  | none =>
    have hl : s.sl = [] := by
      rcases HMO.out with ⟨_, h⟩ | ⟨mb, h, _⟩
      · exact h
      · cases h
    have hk0 : keysOf s.sl = fun _ => false := by rw [hl]; rfl
    rw [hk0]
    have hmz : mapV (fun _ => false) = .agg z0.toArray := by rw [HZZ.out]
    rw [hmz]
    have hrg : ∀ wx : World, (Instr.range 26 (.map none)).run Tryd.prog wx = _ := fun wx => run_range_nilMap wx 26 3 30 Tryd.underlying26
    have hnx : ∀ (ty : TypeId) (W : World), (Instr.next (.pointer (some ⟨W.heap.size, 0, none⟩)) false ty).run Tryd.prog (W.alloc (.mapIter none 0 #[] 0)) = .ok (.tuple #[.bool false]) (W.alloc (.mapIter none 0 #[] 0)) := fun ty W => by
      simpa using run_next_nilMap (P := Tryd.prog) W ty 0 0 #[]
    have hzl : z0.length = 65 := by rw [HZZ.out]; exact mapC_length _
    have HNX : Hid (∀ w2, Below w1.heap.size w1 w2 → (w2.alloc (.mapIter none 0 #[] 0)).rangeAt (w.heap.size + 2) 0 z0 ∧ (w2.alloc (.mapIter none 0 #[] 0)).there (w.heap.size + 1) 0 z0.toArray.size ∧ ((w2.alloc (.mapIter none 0 #[] 0)).setCells (w.heap.size + 1) 0 z0).rangeAt (w.heap.size + 1) 0 z0 ∧ Below w.heap.size w ((w2.alloc (.mapIter none 0 #[] 0)).setCells (w.heap.size + 1) 0 z0)) := Lib.hid fun w2 hb2 => by
      have hb3 : Below w1.heap.size w1 (w2.alloc (.mapIter none 0 #[] 0)) := hb2.alloc hb2.size _
      have hm3 : MapAt (w2.alloc (.mapIter none 0 #[] 0)) (w.heap.size + 2) fun _ => false := (hb3.block _ HM1.out.lt).trans HM1.out
      have hr3 : MapAt (w2.alloc (.mapIter none 0 #[] 0)) (w.heap.size + 1) fun _ => false := (hb3.block _ HR1.out.lt).trans HR1.out
      refine ⟨by rw [HZZ.out]; exact hm3.range, by rw [show z0.toArray.size = 65 from List.size_toArray.trans hzl]; exact hr3.there, by rw [HZZ.out]; exact hr3.stored _, below_row _ _ _ _ (by omega) (HB1.out.trans (hb3.mono HB1.out.size))⟩
    have HZL := Lib.hid hzl
    have HO : Hid (z0.toArray.all (·.oneCell') = true) := Lib.hid (by rw [HZZ.out]; exact mapC_one _)
    have HSZ2 : Hid ((Tryd.prog.info? 76).map (·.size) = some z0.length) := Lib.hid (by rw [hzl]; exact HMS.out)
    have HSZ3 : Hid ((Tryd.prog.info? 76).map (·.size) = some z0.toArray.size) := Lib.hid (by rw [show z0.toArray.size = 65 from List.size_toArray.trans hzl]; exact HMS.out)
    clear hl hk0 hmz hzl
    subst hw1
    go_enter Tryd.func27, Tryd.ntmps27
    go_wp2_with (first
      | (refine wpList_load_mid (by rfl) 35 (.tmp 2) (by rfl) w.heap.size 0 (by rfl) cs _ HRG.out Tryd.underlying35 (by rfl) HSZ.out ?_)
      | (go_at_call 21; (with_reducible refine (co _).mono ?_); rintro e w2 ⟨rfl, hb2⟩; obtain ⟨n1, n2, n3, n4⟩ := HNX.out w2 hb2; have HRD := Lib.hid n1; have HT := Lib.hid n2; have HRES := Lib.hid n3; have HBE := Lib.hid n4; have hnx2 := fun ty => hnx ty w2; clear hb2 n1 n2 n3 n4 hnx))
    refine wp_loop_rounds 1 ?_
    rw [rounds_succ]
    go_wp2_with (first
      | (refine wpList_load_mid (by rfl) 76 (.tmp 5) (by rfl) (w.heap.size + 2) 0 (by rfl) z0 _ HRD.out Tryd.underlying76 (by rfl) HSZ2.out ?_)
      | (refine wpList_store_mid (by rfl) 76 (.tmp 4) (.tmp 20) (by rfl) (w.heap.size + 1) 0 z0.toArray (by rfl) (by rfl) HT.out HSZ3.out HO.out ?_; rw [List.toList_toArray]))
    exact bodyPost_ret (res_slices HZL.out (by rfl) HRES.out) rfl ⟨rfl, HBE.out⟩
  | some mb =>
    have hmp : Mpi w1 mb s.sl := by
      rcases HMO.out with ⟨h, _⟩ | ⟨mb', h, h2⟩
      · cases h
      · injection h with h
        injection h with h
        rw [h]
        exact h2
    have HMP := Lib.hid hmp
    have HML := Lib.hid (HLOW.out mb rfl)
    have HHW := Lib.hid hw1
    subst hw1
    clear hmp HMO HLOW
    go_enter Tryd.func27, Tryd.ntmps27
    go_wp2_with (first
      | (refine wpList_load_mid (by rfl) 35 (.tmp 2) (by rfl) w.heap.size 0 (by rfl) cs _ HRG.out Tryd.underlying35 (by rfl) HSZ.out ?_)
      | (go_at_call 21; (with_reducible refine (co _).mono ?_); rintro e w2 ⟨rfl, hb2⟩; have hown2 : w2.ownsMap Tryd.prog 3 rda mb s.sl.length (mapD s.sl) := (HMP.out.same (hb2.block mb HMP.out.lt)); have HB2 := Lib.hid hb2; clear hb2)
      | (at_range; refine wpList_range_own _ rfl _ 26 rfl 3 30 intKey Tryd.underlying26 rda mb _ _ rfl hown2 ?_; intro w3 hrg0 hg0 hs0)
      | go_in)
    go_frame
    obtain ⟨r, hr⟩ : ∃ r, r = w2.heap.size := ⟨_, rfl⟩
    have HR := Lib.hid hr
    rw [← hr] at hrg0 ⊢
    have HRL : Hid (w.heap.size + 2 < r) := Lib.hid (by have h1 := HB2.out.size; rw [HS1.out] at h1; omega)
    have HSL0 : Hid (Slw w w3 mb r s.sl (Maps.has (mapD s.sl)) (Maps.size (mapD s.sl))) := Lib.hid (by
      have hbb : Below w.heap.size w w3 := (HB1.out.trans (HB2.out.mono HB1.out.size)).grown hg0 (Nat.le_trans HB1.out.size HB2.out.size) (fun q e => (nomatch e))
      have hk : ∀ q, q < w.heap.size + 3 → w3.heap[q]? = ((w.alloc (.cells cs.toArray 35)).alloc (.cells z0.toArray 76) |>.alloc (.cells z0.toArray 76)).heap[q]? := fun q hq => by
        have h1 := HB2.out.size
        rw [HS1.out] at h1
        exact (hg0.block q (by omega) (by simp)).trans (HB2.out.block q (by rw [HS1.out]; exact hq))
      refine ⟨hrg0, ?_, ?_, hbb, HRL.out⟩
      · rw [came_start]
        exact (hk _ (by omega)).trans HM1.out
      · exact (hk _ (by omega)).trans HR1.out)
    clear hr hrg0 hg0 hs0 hown2
    go_loopw [6] (fun _ wr => ∃ (left : Lit → Bool) (cnt : Nat), Hid (Slw w wr mb r s.sl left cnt)) (fun _ wr => wr.rangeLeft mb r)
    case atStart => exact ⟨_, _, HSL0⟩
    case round =>
      obtain ⟨left, cnt, HSL⟩ := hrel
      have hrg := HSL.out.rg
      go_wp2_with (first
        | (at_next; refine wpList_next_ranges _ rfl _ rfl 3 intKey rda (fun x : Int => .int .i64 x) (fun a : Int × Int => adV a) (fun key kl hk => (by obtain ⟨x, e, _⟩ := Maps.keyOf_int_inv Tryd.underlying3 hk; exact ⟨x, e⟩)) (fun v y hv => (by obtain ⟨a, e, _⟩ := rda_inv hv; exact ⟨a, e⟩)) mb r _ _ _ _ rfl hrg ?_ ?_)
        | go_in)
      · intro hc0 hl0
        have he := came_end (l := s.sl) hl0
        have hset := HSL.out.set
        rw [he] at hset
        obtain ⟨ds, hds⟩ : ∃ ds, ds = mapC (keysOf s.sl) := ⟨_, rfl⟩
        have hdl : ds.length = 65 := by rw [hds]; exact mapC_length _
        have HRD : Hid (wr.rangeAt (w.heap.size + 2) 0 ds) := Lib.hid (by rw [hds]; exact hset.range)
        have HDL := Lib.hid hdl
        have HT : Hid (wr.there (w.heap.size + 1) 0 ds.toArray.size) := Lib.hid (by rw [show ds.toArray.size = 65 from List.size_toArray.trans hdl]; exact HSL.out.res.there)
        have HO : Hid (ds.toArray.all (·.oneCell') = true) := Lib.hid (by rw [hds]; exact mapC_one _)
        have HSZ2 : Hid ((Tryd.prog.info? 76).map (·.size) = some ds.length) := Lib.hid (by rw [hdl]; exact HMS.out)
        have HSZ3 : Hid ((Tryd.prog.info? 76).map (·.size) = some ds.toArray.size) := Lib.hid (by rw [show ds.toArray.size = 65 from List.size_toArray.trans hdl]; exact HMS.out)
        have HRES : Hid ((wr.setCells (w.heap.size + 1) 0 ds).rangeAt (w.heap.size + 1) 0 ds) := Lib.hid (by rw [hds]; exact HSL.out.res.stored _)
        have HBE := Lib.hid (below_row ds (w.heap.size + 1) 0 wr (by omega) HSL.out.below)
        have HDS := Lib.hid hds
        clear hl0 hc0 hrg he hset hds hdl
        go_wp2_with (first
          | (refine wpList_load_mid (by rfl) 76 (.tmp 5) (by rfl) (w.heap.size + 2) 0 (by rfl) ds _ HRD.out Tryd.underlying76 (by rfl) HSZ2.out ?_)
          | (refine wpList_store_mid (by rfl) 76 (.tmp 4) (.tmp 20) (by rfl) (w.heap.size + 1) 0 ds.toArray (by rfl) (by rfl) HT.out HSZ3.out HO.out ?_; rw [List.toList_toArray]))
        refine bodyPost_ret (res_slices HDL.out (by rfl) HRES.out) rfl ⟨?_, HBE.out⟩
        rw [HDS.out]
      · intro x a1 a2 kl yd ys w4 cnt1 hkey hlk hv hat hrg1 hlt hg1 hs1 hen
        obtain ⟨rfl, hx⟩ := int_inv hkey
        have hex := look_of_at hat
        have hst := came_step (left := left) hex (by obtain ⟨z, hz, rfl⟩ := hex; exact HOK.out.num z hz)
        have hs4 : MapAt w4 (w.heap.size + 2) (cameOf s.sl left) := (hg1.block _ (by have h1 := HSL.out.set.lt; exact h1) (by have := HRL.out; simp; omega)).trans HSL.out.set
        have hr4 : MapAt w4 (w.heap.size + 1) fun _ => false := (hg1.block _ (by have h1 := HSL.out.res.lt; exact h1) (by have := HRL.out; simp; omega)).trans HSL.out.res
        have hb4 : Below w.heap.size w w4 := HSL.out.below.grown hg1 HSL.out.below.size (fun q e => by injection e with e; have := HRL.out; omega)
        have cw := fun W => with_any (cameOf s.sl left) x W
        rw [hst] at cw
        have hone := mapC_one (cameOf s.sl fun z => left z && !z.sameKey (il x))
        have hl2 := mapC_length (cameOf s.sl fun z => left z && !z.sameKey (il x))
        obtain ⟨ds, hds⟩ : ∃ ds, ds = mapC (cameOf s.sl left) := ⟨_, rfl⟩
        obtain ⟨d2, hd2⟩ : ∃ d2, d2 = mapC (cameOf s.sl fun z => left z && !z.sameKey (il x)) := ⟨_, rfl⟩
        have HRD : Hid (w4.rangeAt (w.heap.size + 2) 0 ds) := Lib.hid (by rw [hds]; exact hs4.range)
        have HSZ2 : Hid ((Tryd.prog.info? 76).map (·.size) = some ds.length) := Lib.hid (by rw [hds, mapC_length]; exact HMS.out)
        unfold mapV at cw
        rw [← hds, ← hd2] at cw
        rw [← hd2] at hone hl2
        have HSZ3 : Hid ((Tryd.prog.info? 76).map (·.size) = some d2.toArray.size) := Lib.hid (by rw [show d2.toArray.size = 65 from List.size_toArray.trans hl2]; exact HMS.out)
        have HO := Lib.hid hone
        have HNX : Hid (∀ w5, Below w4.heap.size w4 w5 → w5.there (w.heap.size + 2) 0 d2.toArray.size ∧ Slw w (w5.setCells (w.heap.size + 2) 0 d2) mb r s.sl (fun z => left z && !z.sameKey (il x)) cnt1) := Lib.hid fun w5 hb5 => by
          have hs5 : MapAt w5 (w.heap.size + 2) (cameOf s.sl left) := (hb5.block _ hs4.lt).trans hs4
          have hg5 : w4.grownBy w5 none := ⟨hb5.os, hb5.tape, hb5.output, hb5.size, fun i hi _ => hb5.block i hi⟩
          refine ⟨by rw [show d2.toArray.size = 65 from List.size_toArray.trans hl2]; exact hs5.there, ((hrg1.kept hg5 (by simp) (by simp)).kept (grown_setCells _ _ _ _) (by have := HML.out; simp; omega) (by have := HRL.out; simp; omega)), ?_, ?_, below_row _ _ _ _ (by omega) (hb4.trans (hb5.mono hb4.size)), HRL.out⟩
          · rw [hd2]; exact hs5.over _
          · exact ((Else.setCells d2 0 w5 (Else.refl (w.heap.size + 2) w5)).same _ (by omega)).trans ((hb5.block _ hr4.lt).trans hr4)
        have HLT := Lib.hid hlt
        clear hat hrg1 hlt hg1 hs1 hkey hlk hv hex hst hs4 hr4 hb4 hone hl2 hds hd2 hrg
        go_wp2_with (first
          | (refine wpList_load_mid (by rfl) 76 (.tmp 5) (by rfl) (w.heap.size + 2) 0 (by rfl) ds _ HRD.out Tryd.underlying76 (by rfl) HSZ2.out ?_)
          | (go_at_call 42; (with_reducible refine (cw _).mono ?_); rintro e w5 ⟨rfl, hb5⟩; have hnx := HNX.out w5 hb5; have HT := Lib.hid hnx.1; have HSN := Lib.hid hnx.2; clear hb5 hnx)
          | (refine wpList_store_mid (by rfl) 76 (.tmp 5) (.tmp 19) (by rfl) (w.heap.size + 2) 0 d2.toArray (by rfl) (by rfl) HT.out HSZ3.out HO.out ?_; rw [List.toList_toArray]))
        go_frame
        go_roundw
        case rel => exact ⟨_, _, HSN⟩
        case measure => rw [HSN.out.rg.left_eq, HSL.out.rg.left_eq]; exact HLT.out
end Go.Proofs.YtcmhodimkpkmbaaDoor
