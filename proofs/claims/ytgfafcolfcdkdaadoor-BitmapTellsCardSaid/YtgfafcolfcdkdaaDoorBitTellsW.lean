/-
  The walk of the statement on one map, by the contracts: whatever cells a map has.
-/
import Derived.Test.YtgfafcolfcdkdaaDoorIts
import Derived.Test.YtgfafcolfcdkdaaDoorBitTwoW
import Derived.Test.YtgfafcolfcdkdaaDoorRefInts
import Derived.Test.YtgfafcolfcdkdaaDoorAppendCells
import Derived.ControlIn
import Derived.BigQuiet
import Derived.Deep.QuietTactic
namespace Go.Proofs.YtgfafcolfcdkdaaDoor
open Go.ChangeShapes Go.WideShapes Go.ChangeAt Go.RowKit Go.Shelf
set_option maxRecDepth 100000
attribute [local go_sem] Oper.semAt_some

/-- a result that lies in a cell of its own -/
theorem res_tells {U : World} {tm : Array Value} {b : Nat} {v : Bool} (h4 : tm.getD 6 undef = .pointer (some ⟨b, 0, none⟩)) (hc : U.cell? ⟨b, 0, none⟩ = some (.bool v)) : (results Tryd.f3 tm).run Tryd.prog U = .ok (.bool v) U := by
  have h5 : tm[6]?.getD undef = .pointer (some ⟨b, 0, none⟩) := by simpa using h4
  simp [results, Tryd.results3, h5, go_sem, hc, asAddr, loadVar]
/-- what doesn't change while the numbers are told: the boxes of stop, the result, the map, the list -/
structure TSta (w : World) (bm bw : Nat) (stop : Int) (cs : List Value) (As : Option Addr) (ks : Nat) (S : List Int) (X : World) : Prop where
  stop : Boxed X w.heap.size 3 (.int .i64 stop)
  res : Boxed X (w.heap.size + 1) 4 (.bool false)
  map : X.rangeAt bm 0 cs
  want : Boxed X bw 22 (.slice As S.length ks)
  vals : Vs X bw As S.length (nums .i64 S)
  below : Below w.heap.size w X
  lt : w.heap.size + 1 < bm ∧ bm < bw
section
variable {w X X' : World} {bm bw : Nat} {stop : Int} {cs : List Value} {As : Option Addr} {ks : Nat} {S : List Int}
theorem TSta.same (h : TSta w bm bw stop cs As ks S X) (hs : ∀ i, i < X.heap.size → i ≤ bw → X'.heap[i]? = X.heap[i]?) (hb : Below w.heap.size w X') : TSta w bm bw stop cs As ks S X' := by
  obtain ⟨h1, h2⟩ := h.lt
  have hbw : bw < X.heap.size := h.want.lt
  refine ⟨(hs _ h.stop.lt (by omega)).trans h.stop, (hs _ h.res.lt (by omega)).trans h.res, fun j v hv => (World.cell?_of_block (hs bm (by omega) (by omega))).trans (h.map j v hv), (hs _ hbw (Nat.le_refl _)).trans h.want, ⟨h.vals.1, fun h0 => ?_⟩, hb, h.lt⟩
  obtain ⟨b, off, e, hB, hc⟩ := h.vals.2 h0
  exact ⟨b, off, e, hB, fun j hj => (World.cell?_of_block (hs b (by omega) (by omega))).trans (hc j hj)⟩
theorem TSta.kept (h : TSta w bm bw stop cs As ks S X) {row : Option Nat} (hg : X.grownBy X' row) (hr : ∀ r, row = some r → bw < r) : TSta w bm bw stop cs As ks S X' := by
  obtain ⟨h1, h2⟩ := h.lt
  exact h.same (fun i hi hib => hg.block i hi fun e => by have := hr i e.symm; omega) (h.below.grown hg h.below.size (fun q e => by have := hr q e; omega))
theorem TSta.alloc (h : TSta w bm bw stop cs As ks S X) (o : Obj) : TSta w bm bw stop cs As ks S (X.alloc o) := h.kept (World.grownBy_alloc X o none) (fun r e => by cases e)
theorem TSta.setCell (h : TSta w bm bw stop cs As ks S X) (i : Nat) (v : Value) (h1 : bw < i) : TSta w bm bw stop cs As ks S (X.setCell ⟨i, 0, none⟩ v) := h.kept (grownBy_setCell' X i v) (fun r e => by injection e with e; omega)
theorem TSta.putObj (h : TSta w bm bw stop cs As ks S X) (D : Nat) (o : Obj) (h1 : bw < D) : TSta w bm bw stop cs As ks S (X.putObj D o) := h.kept (grownBy_putObj' X D o) (fun r e => by injection e with e; omega)
theorem TSta.on (h : TSta w bm bw stop cs As ks S X) (hb : Below X.heap.size X X') : TSta w bm bw stop cs As ks S X' := h.same (fun i hi _ => hb.block i hi) (h.below.trans (hb.mono h.below.size))
theorem TSta.own {β : Type} {B : Nat} (hB : bw < B) : OwnFrom B (fun (_ : β) X => TSta w bm bw stop cs As ks S X) := fun _ X Y row hs hg hr => hs.kept hg fun r e => by
  have := (hr r e).1
  omega
end
theorem range_alloc_set (w : World) (z cs : List Value) (T : TypeId) (h1 : z.length = cs.length) : (w.alloc (.cells z.toArray T)).there w.heap.size 0 cs.toArray.size ∧ ((w.alloc (.cells z.toArray T)).setCells w.heap.size 0 cs).rangeAt w.heap.size 0 cs ∧ Below w.heap.size w ((w.alloc (.cells z.toArray T)).setCells w.heap.size 0 cs) := by
  have t1 := there_new w z T
  rw [h1] at t1
  refine ⟨by simpa using t1, World.rangeAt_setCells_same _ w.heap.size 0 cs t1, below_setCells2 _ _ _ _ (Nat.le_refl _) ((Below.refl _ w).alloc (Nat.le_refl _) _)⟩
/-- append of one-cell values onto an own row, within a region that draws -/
theorem step_append_vals {P : Program} {w : World} {ops : Array Oper} {o : Oper} {a : Act} {K : Act → World → Prop} {Q : Exit → Act → World → Prop} {E : Prop} (hw : Region.wanted o (yielded ops a.tmps) = true) (s x : Operand) (t : TypeId)
    (ho : o.op = .call { callee := .builtin .append, args := #[s, x], argTypes := #[t, t] })
    (base : Nat) (e : TypeId) (i : TypeInfo) (z : Value) (by_ : Nat) (ht : P.underlying t = some (.slice e)) (hi : P.info? e = some i) (hz : i.zero = some z) (hsize : i.size = 1) (hby : i.bytes = by_) (hz1 : z.cells.size = 1)
    (v : Value) (n : Nat) (L : List Value) (hs : a.eval s = v) (hown : w.ownsRow base e 1 v n L) (B : Nat) (A : Option Addr) (m c : Nat) (M : List Value) (hx : a.eval x = .slice A m c) (hb : Vs w B A m M) (hone : ∀ u ∈ M, u.oneCell' = true)
    (k : Nat) (hk : n + m = k) (R : List Value) (hR : L ++ M = R) (hlen : n + m ≤ 9223372036854775807) (hbytes : (n + m) * by_ ≤ 140737488355328) (hbase : base ≤ w.heap.size)
    (h : ∀ A' c' w', w'.ownsRow base e 1 (.slice A' k c') k R → w.grownBy w' v.ownBlock → K (a.put o.dst (.slice A' k c')) w') : if Region.wanted o (yielded ops a.tmps) = true then Oper.wp P o a w K Q else E := by
  rw [if_pos hw]
  subst hk hR
  obtain ⟨v', w', hrun, h2, h3⟩ := append_vals_run (P := P) base t o.type e i z by_ ht hi hz hsize hby hz1 v n L hown B A m c M hb hone hlen hbytes hbase
  obtain ⟨A', c', rfl, -, -⟩ := Vs.of_own h2
  unfold Oper.wp execOp
  simp only [ho, resolve, invoke, builtin, Sem.run_bind, Sem.run_pure, Result.andThen_ok, List.map_toArray, List.map_cons, List.map_nil, hs, hx, hrun]
  exact h A' c' w' h2 h3
theorem vs_slice {w : World} {base : Nat} {e : TypeId} {A : Option Addr} {k c : Nat} {R : List Value} (h : w.ownsRow base e 1 (.slice A k c) k R) : Vs w w.heap.size A k R := by
  obtain ⟨A', c', e1, h2, -⟩ := Vs.of_own h
  injection e1 with e1
  subst e1
  exact h2
/-- the m-th of them -/
def nthS (S : List Int) (m : Nat) : Int := S.getD m 0
theorem nthS_eq {S : List Int} {m : Nat} (h : m < S.length) : nthS S m = S[m] := by
  unfold nthS
  rw [List.getD_eq_getElem?_getD, List.getElem?_eq_getElem h, Option.getD_some]
theorem box_next (w : World) (o : Obj) (T : TypeId) (v : Value) : Boxed ((w.alloc o).alloc (.cells #[v] T)) (w.heap.size + 1) T v := by
  have h := Boxed.new (w.alloc o) T v
  rwa [World.size_alloc] at h
theorem tells_start {w w1 w2 w3 w4 : World} {stop : Int} {cs : List Value} {As : Option Addr} {ks : Nat} {S : List Int} (q1 : Boxed w1 w.heap.size 3 (.int .i64 stop)) (q2 : Boxed w1 (w.heap.size + 1) 4 (.bool false)) (b1 : Below w.heap.size w w1) (b2 : Below w1.heap.size w1 w2)
    (r3 : w3.rangeAt w2.heap.size 0 cs) (b3 : Below w2.heap.size w2 w3) (hz : w.heap.size + 2 ≤ w1.heap.size) (hv : Vs w4 w4.heap.size As S.length (nums .i64 S)) (b4 : Below w3.heap.size w3 w4) (hp : 0 < cs.length) :
    TSta w w2.heap.size w4.heap.size stop cs As ks S ((w4.alloc (.cells #[.slice As S.length ks] 22)).alloc (.cells #[.int .i64 0] 3)) := by
  have hlt3 : w2.heap.size < w3.heap.size := World.block_lt_of_cell? _ _ (r3 0 _ (List.getElem?_eq_getElem hp))
  have s2 := b2.size
  have s4 := b4.size
  have b14 : Below w1.heap.size w1 w4 := (b2.trans (b3.mono s2)).trans (b4.mono (Nat.le_trans s2 b3.size))
  have hw4 : ∀ (T : TypeId) (v : Value), Below w4.heap.size w4 ((w4.alloc (.cells #[.slice As S.length ks] 22)).alloc (.cells #[.int .i64 0] 3)) := fun _ _ => ((Below.refl _ w4).alloc (Nat.le_refl _) _).alloc (by simp) _
  have hbV := hw4 0 undef
  refine ⟨(hbV.block _ (by omega)).trans ((b14.block _ (by omega)).trans q1), (hbV.block _ (by omega)).trans ((b14.block _ (by omega)).trans q2), range_below (range_below r3 b4 hlt3) hbV (by omega), (Boxed.new w4 22 _).alloc _, hv.below hbV, (b1.trans (b14.mono b1.size)).trans (hbV.mono (Nat.le_trans b1.size b14.size)), by omega, by omega⟩
section
variable {A : Option Addr} {n c : Nat} {i stop : Int} {cs z0 ci cd ce : List Value} {may inn : Bool} {l : List Int} {w : World}
set_option maxHeartbeats 16000000 in
theorem tells_no (hn : ¬ 60 < n) (hA : Vs w w.heap.size A n (nums .i64 l))
    (ka : ∀ W, Below w.heap.size w W → Calls Tryd.prog 6 #[] W fun e w' => e = .returned (.bool true) ∧ Below W.heap.size W w')
    (hz : ∀ W, (zeroValue 27).run Tryd.prog W = .ok (.agg z0.toArray) W)
    (hsz : (Tryd.prog.info? 27).map (·.size) = some cs.length) (hsz0 : z0.length = cs.length) (hpos : 0 < cs.length) (o1 : ∀ v ∈ cs, v.oneCell' = true)
    (kf : ∀ W, Below w.heap.size w W → Calls Tryd.prog 7 #[.slice A n c] W fun e w' => e = .returned (.agg cs.toArray) ∧ Below W.heap.size W w')
    (gf : Nat) (eg : ∀ args w, (callFunc gf args).run Tryd.prog w = .ok (.enter gf args) w)
    (kall : ∀ W, Below w.heap.size w W → Calls Tryd.prog 9 #[.agg cs.toArray] W fun e w' => ∃ lb p, e = .returned (.func (.func gf) #[] lb) ∧ Its Tryd.prog gf lb (fun m => #[.int .i64 (nthS (Bm.srt l 4097) m)]) (Bm.srt l 4097).length p w' ∧ (∀ i, p i → (i < w.heap.size ∨ W.heap.size ≤ i) ∧ i < w'.heap.size) ∧ Below W.heap.size W w')
    (klist : ∀ W, Below w.heap.size w W → Calls Tryd.prog 12 #[.agg cs.toArray] W (NumsTo (Bm.srt l 4097) W))
    (klen : ∀ W, Calls Tryd.prog 13 #[.agg cs.toArray] W fun e w' => e = .returned (.int .i64 ((Bm.srt l 4097).length : Int)) ∧ Below W.heap.size W w')
    (kh1 : ∀ W, Calls Tryd.prog 14 #[.agg cs.toArray, .int .i64 i] W fun e w' => e = .returned (.bool inn) ∧ Below W.heap.size W w')
    (kw1 : ∀ W, Calls Tryd.prog 15 #[.agg cs.toArray, .int .i64 i] W fun e w' => e = .returned (.agg ci.toArray) ∧ Below W.heap.size W w')
    (kh2 : ∀ W, Calls Tryd.prog 14 #[.agg ci.toArray, .int .i64 i] W fun e w' => e = .returned (.bool may) ∧ Below W.heap.size W w')
    (kwo : ∀ W, Calls Tryd.prog 16 #[.agg cs.toArray, .int .i64 i] W fun e w' => e = .returned (.agg cd.toArray) ∧ Below W.heap.size W w')
    (kh3 : ∀ W, Calls Tryd.prog 14 #[.agg cd.toArray, .int .i64 i] W fun e w' => e = .returned (.bool false) ∧ Below W.heap.size W w')
    (kof2 : ∀ W A' n' c', Vs W W.heap.size A' n' (nums .i64 (l ++ [i])) → Calls Tryd.prog 7 #[.slice A' n' c'] W fun e w' => e = .returned (.agg ci.toArray) ∧ Below W.heap.size W w')
    (kw2 : ∀ W, Calls Tryd.prog 15 #[.agg cd.toArray, .int .i64 i] W fun e w' => e = .returned (.agg ce.toArray) ∧ Below W.heap.size W w')
    (kh4 : ∀ W, Calls Tryd.prog 14 #[.agg ce.toArray, .int .i64 i] W fun e w' => e = .returned (.bool may) ∧ Below W.heap.size W w')
    (he1 : ∀ W, (binOp BinOp.eql 27 (.agg ci.toArray) (.agg ci.toArray)).run Tryd.prog W = .ok (.bool true) W) (he2 : inn = false → ∀ W, (binOp BinOp.eql 27 (.agg cd.toArray) (.agg cs.toArray)).run Tryd.prog W = .ok (.bool true) W)
    (m1 m2 inl : Bool) (hm1 : decide (0 ≤ i) = m1) (hm2 : decide (i ≤ 4096) = m2) (hinl : decide (i ∈ l) = inl) (hmay : may = (m1 && m2)) (hinn : inn = (may && inl)) (hiv : inn = false) :
    Calls Tryd.prog 3 #[.slice A n c, .int .i64 i, .int .i64 stop] w fun e w' => e = .returned (.bool true) ∧ Below w.heap.size w w' := by
  subst hiv
  have d1 : decide ((60 : Int) < (n : Int)) = false := decide_eq_false (by omega)
  have HKA := Lib.hid ka
  have HKF := Lib.hid kf
  have HKALL := Lib.hid kall
  have HA := Lib.hid hA
  have HN := Lib.hid hn
  have HS0 := Lib.hid hsz0
  have HLC := Lib.hid hpos
  have HIA : Hid ((Tryd.prog.info? 27).map (·.size) = some cs.toArray.size) := Lib.hid (by rw [hsz]; simp)
  have HSZ := Lib.hid hsz
  have HO1 := Lib.hid (all_oneCell_toArray o1)
  have HEG := Lib.hid eg
  have KLIST := Lib.hid klist
  have KLEN := Lib.hid klen
  have KH1 := Lib.hid kh1
  have KW1 := Lib.hid kw1
  have KH2 := Lib.hid kh2
  have KWO := Lib.hid kwo
  have KH3 := Lib.hid kh3
  have KOF2 := Lib.hid kof2
  have KW2 := Lib.hid kw2
  have KH4 := Lib.hid kh4
  have HE1 := Lib.hid he1
  have HE2 := Lib.hid he2
  have HM1 := Lib.hid hm1
  have HM2 := Lib.hid hm2
  have HINL := Lib.hid hinl
  have HMAY := Lib.hid hmay
  have HINN := Lib.hid hinn
  clear klist klen kh1 kw1 kh2 kwo kh3 kof2 kw2 kh4 he1 he2 hm1 hm2 hinl hmay hinn
  clear ka hn kf kall hA hsz hsz0 hpos o1 eg
  generalize hS : Bm.srt l 4097 = S at *
  have HSS := Lib.hid hS
  clear hS
  have hb0 : Below w.heap.size w ((w.alloc (.cells #[.int .i64 stop] 3)).alloc (.cells #[.bool false] 4)) := ((Below.refl _ w).alloc (Nat.le_refl _) _).alloc (by simp) _
  have HB0 := Lib.hid hb0
  have hs0 : ((w.alloc (.cells #[.int .i64 stop] 3)).alloc (.cells #[.bool false] 4)).heap.size = w.heap.size + 2 := by simp
  have HQS := Lib.hid ((Boxed.new w 3 (.int .i64 stop)).alloc (.cells #[.bool false] 4))
  have hqr := Boxed.new (w.alloc (.cells #[.int .i64 stop] 3)) 4 (.bool false)
  rw [World.size_alloc] at hqr
  have HQR := Lib.hid hqr
  have HZ0 := Lib.hid hs0
  clear hb0 hs0 hqr
  have HSORT : Hid (∀ W, Below w.heap.size w W → Calls Tryd.prog 8 #[.slice A n c] W (NumsTo S W)) := Lib.hid fun W h => by
    have h9 := sorted_any A n c w.heap.size l W (HA.out.below h) h.size (by have := HN.out; omega)
    rw [HSS.out] at h9
    exact h9
  refine (callsIn_wide (n := 30)).1 ?_
  refine callsIn_of_wp_marks Tryd.func3 rfl trivial ?_ rfl
  simp only [Tryd.ntmps3, List.size_toArray, List.length_cons, List.length_nil, Nat.reduceAdd, Nat.reduceSub, Array.replicate_succ, Array.replicate_zero, List.push_toArray, List.append_toArray, List.nil_append, List.cons_append]
  refine (wpIn_wide (n := 30)).2 ?_
  go_wp2_with (first
    | (go_at_call 6; (with_reducible refine (HKA.out _ HB0.out).mono ?_); rintro e w1 ⟨rfl, hb1⟩; have HB1 := Lib.hid (HB0.out.trans (hb1.mono (by rw [HZ0.out]; omega))); have HQS1 := Lib.hid (show Boxed w1 w.heap.size 3 (.int .i64 stop) from (hb1.block _ (by rw [HZ0.out]; omega)).trans HQS.out); have HQR1 := Lib.hid (show Boxed w1 (w.heap.size + 1) 4 (.bool false) from (hb1.block _ (by rw [HZ0.out]; omega)).trans HQR.out); have HZ1 : Hid (w.heap.size + 2 ≤ w1.heap.size) := Lib.hid (by have h9 := hb1.size; rwa [HZ0.out] at h9); clear hb1)
    | (go_at_call 7; (with_reducible refine (HKF.out w1 HB1.out).mono ?_); rintro e w2 ⟨rfl, hb2⟩; have HC2 := Lib.hid hb2; have HRS := Lib.hid (range_alloc_set w2 z0 cs 27 HS0.out); clear hb2)
    | (refine wpList_store_mid (by rfl) 27 (.tmp 7) (.tmp 19) (by rfl) w2.heap.size 0 cs.toArray (by rfl) (by rfl) HRS.out.1 HIA.out HO1.out ?_; obtain ⟨w3, hw3⟩ : ∃ w3, w3 = (w2.alloc (.cells z0.toArray 27)).setCells w2.heap.size 0 cs := ⟨_, rfl⟩; have HR3 := Lib.hid HRS.out.2; rw [← hw3] at HR3; rw [← hw3]; have HB3 := Lib.hid ((HB1.out.trans (HC2.out.mono HB1.out.size)).trans (HR3.out.2.mono (HB1.out.trans (HC2.out.mono HB1.out.size)).size)); clear hw3 HRS)
    | (go_at_call 8; (with_reducible refine (HSORT.out w3 HB3.out).mono ?_); rintro e w4 ⟨As, ks, rfl, hvs, hks, hb4⟩; have HT := Lib.hid (tells_start (ks := ks) HQS1.out HQR1.out HB1.out HC2.out HR3.out.1 HR3.out.2 HZ1.out hvs hb4 HLC.out); have HBN := Lib.hid (box_next w4 (.cells #[.slice As S.length ks] 22) 3 (.int .i64 0)); clear hvs hks hb4)
    | (refine wpList_load_mid (by rfl) 27 (.tmp 7) (by rfl) w2.heap.size 0 (by rfl) cs _ HT.out.map Tryd.underlying27 (by rfl) HSZ.out ?_)
    | (go_at_call 9; (with_reducible refine (HKALL.out _ HT.out.below).mono ?_); rintro e w7 ⟨lb, p, rfl, hits, hp, hb7⟩; have HITS := Lib.hid hits; have HP := Lib.hid hp; have HT7 := Lib.hid (HT.out.on hb7); have HBN7 := Lib.hid (show Boxed w7 _ _ _ from (hb7.block _ HBN.out.lt).trans HBN.out); have HB7 := Lib.hid hb7; clear hits hp hb7))
  rename_i Kr hKr
  have hsz : S.length ≤ 100 := by
    have h1 := Bm.srt_length l 4097
    rw [HSS.out] at h1
    have h2 := HA.out.1
    rw [nums_length] at h2
    have := HN.out
    omega
  have key : ∀ (D : Nat) (X : World) (cv : Nat), w7.heap.size ≤ D → TSta w w2.heap.size w4.heap.size stop cs As ks S X → Boxed X (w4.heap.size + 1) 3 (.int .i64 cv) → (cv ≠ S.length → (cv : Int) = stop) → X.heap[D]? = some (.deferred (some [])) →
      Kr { tmps := #[.slice A n c, .int .i64 i, .int .i64 stop, undef, undef, .pointer (some ⟨w.heap.size, 0, none⟩), .pointer (some ⟨w.heap.size + 1, 0, none⟩), .pointer (some ⟨w2.heap.size, 0, none⟩), .pointer (some ⟨w4.heap.size, 0, none⟩), .pointer (some ⟨w4.heap.size + 1, 0, none⟩), undef, undef, undef, .bool true, .bool false, .slice A n c, .int .i64 (n : Int), .bool false, .slice A n c, .agg cs.toArray, .slice A n c, .slice As S.length ks, .agg cs.toArray, .func (.func gf) #[] lb, undef, undef, undef, undef, undef, undef, undef, undef, undef, undef, undef, undef, undef, undef, undef, undef, undef, undef, undef, undef, undef, undef, undef, undef, undef, undef, undef, undef, undef, undef, undef, undef, undef, undef, undef, undef, undef, undef, undef, undef, undef, undef, undef, undef, undef, undef, undef, undef, undef, undef, undef, undef, undef, undef, undef, undef, undef, undef, undef, undef, undef, undef, undef, undef, undef, undef, undef, undef, undef, undef, undef, undef, undef, undef, undef, undef, undef, undef, undef, undef, undef, undef, undef, undef, undef, undef, undef, undef, undef, undef, undef, undef, undef, undef, undef, undef, undef, undef, undef, undef, undef, undef, undef, undef, undef, undef, undef], defers := [{ target := .collected D, args := #[] }] } X := by
    intro D X cv hD hS hC hcv hDD
    refine hKr _ _ ?_
    clear hKr
    have cC := hC.cell
    have cS := hS.stop.cell
    have cW := hS.want.cell
    have HCV := Lib.hid hcv
    simp only [List.append_eq, List.cons_append, List.nil_append]
    go_upto_region 14 with fail
    go_cut [50] from 42 to 50 (fun s50 wx => s50 = .bool false ∧ wx = X)
    case first =>
      by_cases hq : cv = S.length
      · have e1 : ((cv : Int) != (S.length : Int)) = false := by simp [hq]
        clear hcv hq
        go_wp2
        go_meet
        exact ⟨rfl, rfl⟩
      · have e1 : ((cv : Int) != (S.length : Int)) = true := by simp; omega
        have e2 : ((cv : Int) != stop) = false := by simp [hcv hq]
        clear hcv hq
        go_wp2
        go_meet
        exact ⟨rfl, rfl⟩
    obtain ⟨rfl, rfl⟩ := hcut
    clear hcv
    go_upto_region 16 with fail
    go_cut [11] from 51 to 56 (fun s11 wx => s11 = .bool may ∧ wx = wc)
    case first =>
      have hm1 := HM1.out
      have hm2 := HM2.out
      have hmay := HMAY.out
      cases m1
      · rw [Bool.false_and] at hmay
        subst hmay
        go_wp2
        go_meet
        exact ⟨rfl, rfl⟩
      · rw [Bool.true_and] at hmay
        subst hmay
        go_wp2
        go_meet
        exact ⟨rfl, rfl⟩
    obtain ⟨rfl, rfl⟩ := hcut
    go_upto_region 17 with fail
    go_cut [12] from 57 to 62 (fun s12 wx => s12 = .bool false ∧ wx = wc)
    case first =>
      have hinn := HINN.out
      have cin := in01_any A n c i w.heap.size l wc (HA.out.below hS.below) (by have := HN.out; omega)
      rw [HINL.out] at cin
      cases may
      · rw [Bool.false_and] at hinn
        first
          | exact absurd hinn (by decide)
          | (go_wp2; go_meet; exact ⟨rfl, rfl⟩)
      · rw [Bool.true_and] at hinn
        subst hinn
        go_wp2_with (go_at_call 10; (with_reducible refine cin.mono ?_); rintro e wi ⟨rfl, rfl⟩)
        go_meet
        exact ⟨rfl, rfl⟩
    obtain ⟨rfl, rfl⟩ := hcut
    have HT := Lib.hid (fun W (h : Below wc.drew.heap.size wc.drew W) => hS.on (((Below.refl wc.heap.size wc).drew).trans h))
    have HPS : Hid (∀ W, Below wc.drew.heap.size wc.drew W → W.rangeAt w2.heap.size 0 cs ∧ W.cell? ⟨w4.heap.size, 0, none⟩ = some (.slice As S.length ks)) := Lib.hid fun W h => ⟨(HT.out W h).map, (HT.out W h).want.cell⟩
    have HVW : Hid (∀ W, Below wc.drew.heap.size wc.drew W → Vs W W.heap.size As S.length (nums .i64 S)) := Lib.hid fun W h => (HT.out W h).vals.mono (Nat.le_of_lt (HT.out W h).want.lt)
    have HAW : Hid (∀ W, Below wc.drew.heap.size wc.drew W → Vs W w.heap.size A n (nums .i64 l)) := Lib.hid fun W h => HA.out.below (HT.out W h).below
    have HRES : Hid (∀ W, Below wc.drew.heap.size wc.drew W → Boxed W (w.heap.size + 1) 4 (.bool false)) := Lib.hid fun W h => (HT.out W h).res
    have HPS2 : Hid (∀ W, Below wc.drew.heap.size wc.drew W → (W.setCell ⟨w.heap.size + 1, 0, none⟩ (.bool true)).rangeAt w2.heap.size 0 cs ∧ (W.setCell ⟨w.heap.size + 1, 0, none⟩ (.bool true)).cell? ⟨w4.heap.size, 0, none⟩ = some (.slice As S.length ks)) := Lib.hid fun W h => by
      have ht := HT.out W h
      obtain ⟨l1, l2⟩ := ht.lt
      refine ⟨fun j v hv => (World.cell?_of_block (Below.heap_setCell W ⟨w.heap.size + 1, 0, none⟩ _ w2.heap.size (by dsimp only; omega))).trans (ht.map j v hv), (World.cell?_of_block (Below.heap_setCell W ⟨w.heap.size + 1, 0, none⟩ _ w4.heap.size (by dsimp only; omega))).trans ht.want.cell⟩
    have HFIN : Hid (∀ W, Below wc.drew.heap.size wc.drew W → ((((W.setCell ⟨w.heap.size + 1, 0, none⟩ (.bool true)).putObj D (.deferred none)).cell? ⟨w.heap.size + 1, 0, none⟩ = some (.bool true)) ∧ Below w.heap.size w ((W.setCell ⟨w.heap.size + 1, 0, none⟩ (.bool true)).putObj D (.deferred none))) ∧ (W.setCell ⟨w.heap.size + 1, 0, none⟩ (.bool true)).heap[D]? = some (.deferred (some []))) := Lib.hid fun W h => by
      have ht := HT.out W h
      have hDl : D < wc.heap.size := (Array.getElem?_eq_some_iff.1 hDD).1
      have hw7 := HBN7.out.lt
      obtain ⟨l1, l2⟩ := ht.lt
      have hd : W.heap[D]? = some (.deferred (some [])) := (h.block D hDl).trans hDD
      have hb1 : Below w.heap.size w (W.setCell ⟨w.heap.size + 1, 0, none⟩ (.bool true)) := ht.below.setCell (p := ⟨w.heap.size + 1, 0, none⟩) (by dsimp only; omega) _
      have hc1 : (W.setCell ⟨w.heap.size + 1, 0, none⟩ (.bool true)).cell? ⟨w.heap.size + 1, 0, none⟩ = some (.bool true) := (Boxed.set (.bool true) ht.res).cell
      refine ⟨⟨?_, hb1.grown (grownBy_putObj' _ D _) hb1.size (fun q e => by injection e with e; omega)⟩, (Below.heap_setCell _ _ _ D (by dsimp only; omega)).trans hd⟩
      unfold World.cell? at hc1 ⊢
      rw [World.putObj_heap_other (by dsimp only; omega)]
      exact hc1
    have HB0 := Lib.hid (Below.refl wc.drew.heap.size wc.drew)
    have hP := HPS.out _ HB0.out
    obtain ⟨i0, hi0, hz0, hz1, hz2⟩ := info_parts int_infoS
    have HI0 := Lib.hid hi0
    have HZI := Lib.hid hz0
    have HSI := Lib.hid hz1
    have HBI := Lib.hid hz2
    have he1 := HE1.out
    clear hi0 hz0 hz1 hz2 hS hC hDD cC cS cW hz hD
    have he2 := HE2.out trivial
    go_upto_region 18 with fail
    refine wp_region_noPanic ?_
    try simp only [List.append_eq, List.cons_append, List.nil_append]
    refine wp_region_held_drew (S := (fun W => W.rangeAt w2.heap.size 0 cs ∧ W.cell? ⟨w4.heap.size, 0, none⟩ = some (.slice As S.length ks))) (by kernel_rfl) hP (fun hHeld => ?_)
    refine wpAnyH_take (i := 0) (v := .agg cs.toArray) (List.getElem?_toArray.trans rfl) (by decide +kernel) (by decide +kernel) (by decide +kernel) (fun _ _ _ h => h) ?_ (by assumption) ?_
    · exact yieldsIf_load_mid (by rfl) 27 _ (by rfl) w2.heap.size 0 (by rfl) cs _ (fun _ h => h.1) Tryd.underlying27 (by rfl) HSZ.out
    simp only [Act.put, List.setIfInBounds_toArray, List.set_cons_zero, List.set_cons_succ]
    refine wpAnyH_take (i := 2) (v := ?_) (List.getElem?_toArray.trans rfl) (by decide +kernel) (by decide +kernel) (by decide +kernel) (fun _ _ _ h => h) (Or.inl ⟨by rfl, ?_⟩) (by assumption) ?_
    case refine_2 => (intro w hSw; (try dsimp only at hSw); go_simp <;> with_reducible rfl)
    simp only [Act.put, List.setIfInBounds_toArray, List.set_cons_zero, List.set_cons_succ]
    refine wpAnyH_ready (rs := [1]) (by decide +kernel) (by simp) ?_
    refine AllReadyH.cons (List.getElem?_toArray.trans rfl) (fun K hK => ?_) AllReadyH.nil
    go_simp
    go_at_call 12; (with_reducible refine (KLIST.out _ (HT.out _ HB0.out).below).mono ?_); rintro e wn ⟨Al, kl, rfl, hvl, hkl, hbn⟩; have HVL := Lib.hid hvl; clear hvl hkl; replace HB0 := Lib.hid (HB0.out.trans (hbn.mono HB0.out.size)); have hP := HPS.out _ HB0.out; (try replace HO1 := Lib.hid (own_belowN HO1.out hbn)); (try replace HVB := Lib.hid ((HVB.out.below hbn).mono hbn.size)); clear hbn
    refine hK.out _ _ hP (fun hHeld => ?_)
    clear hK K
    refine wpAnyH_ready (rs := [3]) (by decide +kernel) (by simp) ?_
    refine AllReadyH.cons (List.getElem?_toArray.trans rfl) (fun K hK => ?_) AllReadyH.nil
    go_simp
    go_at_call 11; (with_reducible refine (ints_same Al As S.length kl ks wn.heap.size S wn HVL.out ((HVW.out _ HB0.out)) (by omega)).mono ?_); rintro e wm ⟨rfl, mm, rfl⟩; have hbn : Below wn.heap.size wn (wn.drewN mm) := below_drewN (Below.refl _ _) mm; replace HB0 := Lib.hid (HB0.out.trans (hbn.mono HB0.out.size)); have hP := HPS.out _ HB0.out; (try replace HO1 := Lib.hid (own_belowN HO1.out hbn)); (try replace HVB := Lib.hid ((HVB.out.below hbn).mono hbn.size)); clear hbn
    refine hK.out _ _ hP (fun hHeld => ?_)
    clear hK K
    refine wpAnyH_take (i := 4) (v := ?_) (List.getElem?_toArray.trans rfl) (by decide +kernel) (by decide +kernel) (by decide +kernel) (fun _ _ _ h => h) (Or.inl ⟨by rfl, ?_⟩) (by assumption) ?_
    case refine_2 => (intro w hSw; (try dsimp only at hSw); clear hSw; go_simp <;> with_reducible rfl)
    simp only [Act.put, List.setIfInBounds_toArray, List.set_cons_zero, List.set_cons_succ]
    refine wpAnyH_take (i := 5) (v := .agg cs.toArray) (List.getElem?_toArray.trans rfl) (by decide +kernel) (by decide +kernel) (by decide +kernel) (fun _ _ _ h => h) ?_ (by assumption) ?_
    · exact yieldsIf_load_mid (by rfl) 27 _ (by rfl) w2.heap.size 0 (by rfl) cs _ (fun _ h => h.1) Tryd.underlying27 (by rfl) HSZ.out
    simp only [Act.put, List.setIfInBounds_toArray, List.set_cons_zero, List.set_cons_succ]
    refine wpAnyH_take (i := 7) (v := ?_) (List.getElem?_toArray.trans rfl) (by decide +kernel) (by decide +kernel) (by decide +kernel) (fun _ _ _ h => h) (Or.inl ⟨by rfl, ?_⟩) (by assumption) ?_
    case refine_2 => (intro w hSw; (try dsimp only at hSw); go_simp <;> with_reducible rfl)
    simp only [Act.put, List.setIfInBounds_toArray, List.set_cons_zero, List.set_cons_succ]
    refine wpAnyH_take (i := 8) (v := ?_) (List.getElem?_toArray.trans rfl) (by decide +kernel) (by decide +kernel) (by decide +kernel) (fun _ _ _ h => h) (Or.inl ⟨by rfl, ?_⟩) (by assumption) ?_
    case refine_2 => (intro w hSw; (try dsimp only at hSw); clear hSw; go_simp <;> with_reducible rfl)
    simp only [Act.put, List.setIfInBounds_toArray, List.set_cons_zero, List.set_cons_succ]
    refine wpAnyH_ready (rs := [6]) (by decide +kernel) (by simp) ?_
    refine AllReadyH.cons (List.getElem?_toArray.trans rfl) (fun K hK => ?_) AllReadyH.nil
    go_simp
    go_at_call 13; first | ((with_reducible refine (KLEN.out _).mono ?_); rintro e wn ⟨rfl, hbn⟩; replace HB0 := Lib.hid (HB0.out.trans (hbn.mono HB0.out.size)); have hP := HPS.out _ HB0.out; (try replace HO1 := Lib.hid (own_belowN HO1.out hbn)); (try replace HVB := Lib.hid ((HVB.out.below hbn).mono hbn.size)); clear hbn)
    refine hK.out _ _ hP (fun hHeld => ?_)
    clear hK K
    refine wpAnyH_take (i := 9) (v := ?_) (List.getElem?_toArray.trans rfl) (by decide +kernel) (by decide +kernel) (by decide +kernel) (fun _ _ _ h => h) (Or.inl ⟨by rfl, ?_⟩) (by assumption) ?_
    case refine_2 => (intro w hSw; (try dsimp only at hSw); clear hSw; go_simp <;> with_reducible rfl)
    simp only [Act.put, List.setIfInBounds_toArray, List.set_cons_zero, List.set_cons_succ]
    refine wpAnyH_take (i := 10) (v := ?_) (List.getElem?_toArray.trans rfl) (by decide +kernel) (by decide +kernel) (by decide +kernel) (fun _ _ _ h => h) (Or.inl ⟨by rfl, ?_⟩) (by assumption) ?_
    case refine_2 => (intro w hSw; (try dsimp only at hSw); clear hSw; go_simp <;> with_reducible rfl)
    simp only [Act.put, List.setIfInBounds_toArray, List.set_cons_zero, List.set_cons_succ]
    refine wpAnyH_take (i := 11) (v := ?_) (List.getElem?_toArray.trans rfl) (by decide +kernel) (by decide +kernel) (by decide +kernel) (fun _ _ _ h => h) (Or.inl ⟨by rfl, ?_⟩) (by assumption) ?_
    case refine_2 => (intro w hSw; (try dsimp only at hSw); clear hSw; go_simp <;> with_reducible rfl)
    simp only [Act.put, List.setIfInBounds_toArray, List.set_cons_zero, List.set_cons_succ]
    refine wpAnyH_take (i := 12) (v := .agg cs.toArray) (List.getElem?_toArray.trans rfl) (by decide +kernel) (by decide +kernel) (by decide +kernel) (fun _ _ _ h => h) ?_ (by assumption) ?_
    · exact yieldsIf_load_mid (by rfl) 27 _ (by rfl) w2.heap.size 0 (by rfl) cs _ (fun _ h => h.1) Tryd.underlying27 (by rfl) HSZ.out
    simp only [Act.put, List.setIfInBounds_toArray, List.set_cons_zero, List.set_cons_succ]
    refine wpAnyH_take (i := 13) (v := ?_) (List.getElem?_toArray.trans rfl) (by decide +kernel) (by decide +kernel) (by decide +kernel) (fun _ _ _ h => h) (Or.inl ⟨by rfl, ?_⟩) (by assumption) ?_
    case refine_2 => (intro w hSw; (try dsimp only at hSw); clear hSw; go_simp <;> with_reducible rfl)
    simp only [Act.put, List.setIfInBounds_toArray, List.set_cons_zero, List.set_cons_succ]
    refine wpAnyH_take (i := 15) (v := ?_) (List.getElem?_toArray.trans rfl) (by decide +kernel) (by decide +kernel) (by decide +kernel) (fun _ _ _ h => h) (Or.inl ⟨by rfl, ?_⟩) (by assumption) ?_
    case refine_2 => (intro w hSw; (try dsimp only at hSw); clear hSw; go_simp <;> with_reducible rfl)
    simp only [Act.put, List.setIfInBounds_toArray, List.set_cons_zero, List.set_cons_succ]
    refine wpAnyH_ready (rs := [14]) (by decide +kernel) (by simp) ?_
    refine AllReadyH.cons (List.getElem?_toArray.trans rfl) (fun K hK => ?_) AllReadyH.nil
    go_simp
    go_at_call 14; first | ((with_reducible refine (KH1.out _).mono ?_); rintro e wn ⟨rfl, hbn⟩; replace HB0 := Lib.hid (HB0.out.trans (hbn.mono HB0.out.size)); have hP := HPS.out _ HB0.out; (try replace HO1 := Lib.hid (own_belowN HO1.out hbn)); (try replace HVB := Lib.hid ((HVB.out.below hbn).mono hbn.size)); clear hbn) | ((with_reducible refine (KH2.out _).mono ?_); rintro e wn ⟨rfl, hbn⟩; replace HB0 := Lib.hid (HB0.out.trans (hbn.mono HB0.out.size)); have hP := HPS.out _ HB0.out; (try replace HO1 := Lib.hid (own_belowN HO1.out hbn)); (try replace HVB := Lib.hid ((HVB.out.below hbn).mono hbn.size)); clear hbn) | ((with_reducible refine (KH3.out _).mono ?_); rintro e wn ⟨rfl, hbn⟩; replace HB0 := Lib.hid (HB0.out.trans (hbn.mono HB0.out.size)); have hP := HPS.out _ HB0.out; (try replace HO1 := Lib.hid (own_belowN HO1.out hbn)); (try replace HVB := Lib.hid ((HVB.out.below hbn).mono hbn.size)); clear hbn) | ((with_reducible refine (KH4.out _).mono ?_); rintro e wn ⟨rfl, hbn⟩; replace HB0 := Lib.hid (HB0.out.trans (hbn.mono HB0.out.size)); have hP := HPS.out _ HB0.out; (try replace HO1 := Lib.hid (own_belowN HO1.out hbn)); (try replace HVB := Lib.hid ((HVB.out.below hbn).mono hbn.size)); clear hbn)
    refine hK.out _ _ hP (fun hHeld => ?_)
    clear hK K
    refine wpAnyH_take (i := 16) (v := ?_) (List.getElem?_toArray.trans rfl) (by decide +kernel) (by decide +kernel) (by decide +kernel) (fun _ _ _ h => h) (Or.inl ⟨by rfl, ?_⟩) (by assumption) ?_
    case refine_2 => (intro w hSw; (try dsimp only at hSw); clear hSw; go_simp <;> with_reducible rfl)
    simp only [Act.put, List.setIfInBounds_toArray, List.set_cons_zero, List.set_cons_succ]
    refine wpAnyH_take (i := 17) (v := ?_) (List.getElem?_toArray.trans rfl) (by decide +kernel) (by decide +kernel) (by decide +kernel) (fun _ _ _ h => h) (Or.inl ⟨by rfl, ?_⟩) (by assumption) ?_
    case refine_2 => (intro w hSw; (try dsimp only at hSw); clear hSw; go_simp <;> with_reducible rfl)
    simp only [Act.put, List.setIfInBounds_toArray, List.set_cons_zero, List.set_cons_succ]
    refine wpAnyH_take (i := 18) (v := ?_) (List.getElem?_toArray.trans rfl) (by decide +kernel) (by decide +kernel) (by decide +kernel) (fun _ _ _ h => h) (Or.inl ⟨by rfl, ?_⟩) (by assumption) ?_
    case refine_2 => (intro w hSw; (try dsimp only at hSw); clear hSw; go_simp <;> with_reducible rfl)
    simp only [Act.put, List.setIfInBounds_toArray, List.set_cons_zero, List.set_cons_succ]
    refine wpAnyH_take (i := 19) (v := .agg cs.toArray) (List.getElem?_toArray.trans rfl) (by decide +kernel) (by decide +kernel) (by decide +kernel) (fun _ _ _ h => h) ?_ (by assumption) ?_
    · exact yieldsIf_load_mid (by rfl) 27 _ (by rfl) w2.heap.size 0 (by rfl) cs _ (fun _ h => h.1) Tryd.underlying27 (by rfl) HSZ.out
    simp only [Act.put, List.setIfInBounds_toArray, List.set_cons_zero, List.set_cons_succ]
    refine wpAnyH_take (i := 20) (v := ?_) (List.getElem?_toArray.trans rfl) (by decide +kernel) (by decide +kernel) (by decide +kernel) (fun _ _ _ h => h) (Or.inl ⟨by rfl, ?_⟩) (by assumption) ?_
    case refine_2 => (intro w hSw; (try dsimp only at hSw); clear hSw; go_simp <;> with_reducible rfl)
    simp only [Act.put, List.setIfInBounds_toArray, List.set_cons_zero, List.set_cons_succ]
    refine wpAnyH_take (i := 22) (v := ?_) (List.getElem?_toArray.trans rfl) (by decide +kernel) (by decide +kernel) (by decide +kernel) (fun _ _ _ h => h) (Or.inl ⟨by rfl, ?_⟩) (by assumption) ?_
    case refine_2 => (intro w hSw; (try dsimp only at hSw); clear hSw; go_simp <;> with_reducible rfl)
    simp only [Act.put, List.setIfInBounds_toArray, List.set_cons_zero, List.set_cons_succ]
    refine wpAnyH_take (i := 24) (v := ?_) (List.getElem?_toArray.trans rfl) (by decide +kernel) (by decide +kernel) (by decide +kernel) (fun _ _ _ h => h) (Or.inl ⟨by rfl, ?_⟩) (by assumption) ?_
    case refine_2 => (intro w hSw; (try dsimp only at hSw); clear hSw; go_simp <;> with_reducible rfl)
    simp only [Act.put, List.setIfInBounds_toArray, List.set_cons_zero, List.set_cons_succ]
    refine wpAnyH_ready (rs := [21]) (by decide +kernel) (by simp) ?_
    refine AllReadyH.cons (List.getElem?_toArray.trans rfl) (fun K hK => ?_) AllReadyH.nil
    go_simp
    go_at_call 15; first | ((with_reducible refine (KW1.out _).mono ?_); rintro e wn ⟨rfl, hbn⟩; replace HB0 := Lib.hid (HB0.out.trans (hbn.mono HB0.out.size)); have hP := HPS.out _ HB0.out; (try replace HO1 := Lib.hid (own_belowN HO1.out hbn)); (try replace HVB := Lib.hid ((HVB.out.below hbn).mono hbn.size)); clear hbn) | ((with_reducible refine (KW2.out _).mono ?_); rintro e wn ⟨rfl, hbn⟩; replace HB0 := Lib.hid (HB0.out.trans (hbn.mono HB0.out.size)); have hP := HPS.out _ HB0.out; (try replace HO1 := Lib.hid (own_belowN HO1.out hbn)); (try replace HVB := Lib.hid ((HVB.out.below hbn).mono hbn.size)); clear hbn)
    refine hK.out _ _ hP (fun hHeld => ?_)
    clear hK K
    refine wpAnyH_ready (rs := [23]) (by decide +kernel) (by simp) ?_
    refine AllReadyH.cons (List.getElem?_toArray.trans rfl) (fun K hK => ?_) AllReadyH.nil
    go_simp
    go_at_call 14; first | ((with_reducible refine (KH1.out _).mono ?_); rintro e wn ⟨rfl, hbn⟩; replace HB0 := Lib.hid (HB0.out.trans (hbn.mono HB0.out.size)); have hP := HPS.out _ HB0.out; (try replace HO1 := Lib.hid (own_belowN HO1.out hbn)); (try replace HVB := Lib.hid ((HVB.out.below hbn).mono hbn.size)); clear hbn) | ((with_reducible refine (KH2.out _).mono ?_); rintro e wn ⟨rfl, hbn⟩; replace HB0 := Lib.hid (HB0.out.trans (hbn.mono HB0.out.size)); have hP := HPS.out _ HB0.out; (try replace HO1 := Lib.hid (own_belowN HO1.out hbn)); (try replace HVB := Lib.hid ((HVB.out.below hbn).mono hbn.size)); clear hbn) | ((with_reducible refine (KH3.out _).mono ?_); rintro e wn ⟨rfl, hbn⟩; replace HB0 := Lib.hid (HB0.out.trans (hbn.mono HB0.out.size)); have hP := HPS.out _ HB0.out; (try replace HO1 := Lib.hid (own_belowN HO1.out hbn)); (try replace HVB := Lib.hid ((HVB.out.below hbn).mono hbn.size)); clear hbn) | ((with_reducible refine (KH4.out _).mono ?_); rintro e wn ⟨rfl, hbn⟩; replace HB0 := Lib.hid (HB0.out.trans (hbn.mono HB0.out.size)); have hP := HPS.out _ HB0.out; (try replace HO1 := Lib.hid (own_belowN HO1.out hbn)); (try replace HVB := Lib.hid ((HVB.out.below hbn).mono hbn.size)); clear hbn)
    refine hK.out _ _ hP (fun hHeld => ?_)
    clear hK K
    refine wpAnyH_take (i := 25) (v := ?_) (List.getElem?_toArray.trans rfl) (by decide +kernel) (by decide +kernel) (by decide +kernel) (fun _ _ _ h => h) (Or.inl ⟨by rfl, ?_⟩) (by assumption) ?_
    case refine_2 => (intro w hSw; (try dsimp only at hSw); clear hSw; go_simp <;> with_reducible rfl)
    simp only [Act.put, List.setIfInBounds_toArray, List.set_cons_zero, List.set_cons_succ]
    refine wpAnyH_take (i := 26) (v := ?_) (List.getElem?_toArray.trans rfl) (by decide +kernel) (by decide +kernel) (by decide +kernel) (fun _ _ _ h => h) (Or.inl ⟨by rfl, ?_⟩) (by assumption) ?_
    case refine_2 => (intro w hSw; (try dsimp only at hSw); clear hSw; go_simp <;> with_reducible rfl)
    simp only [Act.put, List.setIfInBounds_toArray, List.set_cons_zero, List.set_cons_succ]
    refine wpAnyH_take (i := 27) (v := ?_) (List.getElem?_toArray.trans rfl) (by decide +kernel) (by decide +kernel) (by decide +kernel) (fun _ _ _ h => h) (Or.inl ⟨by rfl, ?_⟩) (by assumption) ?_
    case refine_2 => (intro w hSw; (try dsimp only at hSw); clear hSw; go_simp <;> with_reducible rfl)
    simp only [Act.put, List.setIfInBounds_toArray, List.set_cons_zero, List.set_cons_succ]
    refine wpAnyH_take (i := 28) (v := .agg cs.toArray) (List.getElem?_toArray.trans rfl) (by decide +kernel) (by decide +kernel) (by decide +kernel) (fun _ _ _ h => h) ?_ (by assumption) ?_
    · exact yieldsIf_load_mid (by rfl) 27 _ (by rfl) w2.heap.size 0 (by rfl) cs _ (fun _ h => h.1) Tryd.underlying27 (by rfl) HSZ.out
    simp only [Act.put, List.setIfInBounds_toArray, List.set_cons_zero, List.set_cons_succ]
    refine wpAnyH_take (i := 29) (v := ?_) (List.getElem?_toArray.trans rfl) (by decide +kernel) (by decide +kernel) (by decide +kernel) (fun _ _ _ h => h) (Or.inl ⟨by rfl, ?_⟩) (by assumption) ?_
    case refine_2 => (intro w hSw; (try dsimp only at hSw); clear hSw; go_simp <;> with_reducible rfl)
    simp only [Act.put, List.setIfInBounds_toArray, List.set_cons_zero, List.set_cons_succ]
    refine wpAnyH_take (i := 31) (v := ?_) (List.getElem?_toArray.trans rfl) (by decide +kernel) (by decide +kernel) (by decide +kernel) (fun _ _ _ h => h) (Or.inl ⟨by rfl, ?_⟩) (by assumption) ?_
    case refine_2 => (intro w hSw; (try dsimp only at hSw); clear hSw; go_simp <;> with_reducible rfl)
    simp only [Act.put, List.setIfInBounds_toArray, List.set_cons_zero, List.set_cons_succ]
    refine wpAnyH_ready (rs := [30]) (by decide +kernel) (by simp) ?_
    refine AllReadyH.cons (List.getElem?_toArray.trans rfl) (fun K hK => ?_) AllReadyH.nil
    go_simp
    go_at_call 16; first | ((with_reducible refine (KWO.out _).mono ?_); rintro e wn ⟨rfl, hbn⟩; replace HB0 := Lib.hid (HB0.out.trans (hbn.mono HB0.out.size)); have hP := HPS.out _ HB0.out; (try replace HO1 := Lib.hid (own_belowN HO1.out hbn)); (try replace HVB := Lib.hid ((HVB.out.below hbn).mono hbn.size)); clear hbn)
    refine hK.out _ _ hP (fun hHeld => ?_)
    clear hK K
    refine wpAnyH_ready (rs := [32]) (by decide +kernel) (by simp) ?_
    refine AllReadyH.cons (List.getElem?_toArray.trans rfl) (fun K hK => ?_) AllReadyH.nil
    go_simp
    go_at_call 14; first | ((with_reducible refine (KH1.out _).mono ?_); rintro e wn ⟨rfl, hbn⟩; replace HB0 := Lib.hid (HB0.out.trans (hbn.mono HB0.out.size)); have hP := HPS.out _ HB0.out; (try replace HO1 := Lib.hid (own_belowN HO1.out hbn)); (try replace HVB := Lib.hid ((HVB.out.below hbn).mono hbn.size)); clear hbn) | ((with_reducible refine (KH2.out _).mono ?_); rintro e wn ⟨rfl, hbn⟩; replace HB0 := Lib.hid (HB0.out.trans (hbn.mono HB0.out.size)); have hP := HPS.out _ HB0.out; (try replace HO1 := Lib.hid (own_belowN HO1.out hbn)); (try replace HVB := Lib.hid ((HVB.out.below hbn).mono hbn.size)); clear hbn) | ((with_reducible refine (KH3.out _).mono ?_); rintro e wn ⟨rfl, hbn⟩; replace HB0 := Lib.hid (HB0.out.trans (hbn.mono HB0.out.size)); have hP := HPS.out _ HB0.out; (try replace HO1 := Lib.hid (own_belowN HO1.out hbn)); (try replace HVB := Lib.hid ((HVB.out.below hbn).mono hbn.size)); clear hbn) | ((with_reducible refine (KH4.out _).mono ?_); rintro e wn ⟨rfl, hbn⟩; replace HB0 := Lib.hid (HB0.out.trans (hbn.mono HB0.out.size)); have hP := HPS.out _ HB0.out; (try replace HO1 := Lib.hid (own_belowN HO1.out hbn)); (try replace HVB := Lib.hid ((HVB.out.below hbn).mono hbn.size)); clear hbn)
    refine hK.out _ _ hP (fun hHeld => ?_)
    clear hK K
    refine wpAnyH_take (i := 33) (v := ?_) (List.getElem?_toArray.trans rfl) (by decide +kernel) (by decide +kernel) (by decide +kernel) (fun _ _ _ h => h) (Or.inl ⟨by rfl, ?_⟩) (by assumption) ?_
    case refine_2 => (intro w hSw; (try dsimp only at hSw); clear hSw; go_simp <;> with_reducible rfl)
    simp only [Act.put, List.setIfInBounds_toArray, List.set_cons_zero, List.set_cons_succ]
    refine wpAnyH_take (i := 34) (v := ?_) (List.getElem?_toArray.trans rfl) (by decide +kernel) (by decide +kernel) (by decide +kernel) (fun _ _ _ h => h) (Or.inl ⟨by rfl, ?_⟩) (by assumption) ?_
    case refine_2 => (intro w hSw; (try dsimp only at hSw); clear hSw; go_simp <;> with_reducible rfl)
    simp only [Act.put, List.setIfInBounds_toArray, List.set_cons_zero, List.set_cons_succ]
    refine wpAnyH_take (i := 35) (v := ?_) (List.getElem?_toArray.trans rfl) (by decide +kernel) (by decide +kernel) (by decide +kernel) (fun _ _ _ h => h) (Or.inl ⟨by rfl, ?_⟩) (by assumption) ?_
    case refine_2 => (intro w hSw; (try dsimp only at hSw); clear hSw; go_simp <;> with_reducible rfl)
    simp only [Act.put, List.setIfInBounds_toArray, List.set_cons_zero, List.set_cons_succ]
    refine wpAnyH_take (i := 36) (v := .agg cs.toArray) (List.getElem?_toArray.trans rfl) (by decide +kernel) (by decide +kernel) (by decide +kernel) (fun _ _ _ h => h) ?_ (by assumption) ?_
    · exact yieldsIf_load_mid (by rfl) 27 _ (by rfl) w2.heap.size 0 (by rfl) cs _ (fun _ h => h.1) Tryd.underlying27 (by rfl) HSZ.out
    simp only [Act.put, List.setIfInBounds_toArray, List.set_cons_zero, List.set_cons_succ]
    refine wpAnyH_take (i := 37) (v := ?_) (List.getElem?_toArray.trans rfl) (by decide +kernel) (by decide +kernel) (by decide +kernel) (fun _ _ _ h => h) (Or.inl ⟨by rfl, ?_⟩) (by assumption) ?_
    case refine_2 => (intro w hSw; (try dsimp only at hSw); clear hSw; go_simp <;> with_reducible rfl)
    simp only [Act.put, List.setIfInBounds_toArray, List.set_cons_zero, List.set_cons_succ]
    refine wpAnyH_take (i := 39) (v := ?_) (List.getElem?_toArray.trans rfl) (by decide +kernel) (by decide +kernel) (by decide +kernel) (fun _ _ _ h => h) (Or.inl ⟨by rfl, ?_⟩) (by assumption) ?_
    case refine_2 => (intro w hSw; (try dsimp only at hSw); clear hSw; go_simp <;> with_reducible rfl)
    simp only [Act.put, List.setIfInBounds_toArray, List.set_cons_zero, List.set_cons_succ]
    refine wpAnyH_take (i := 41) (v := ?_) (List.getElem?_toArray.trans rfl) (by decide +kernel) (by decide +kernel) (by decide +kernel) (fun _ _ _ h => h) (Or.inl ⟨by rfl, ?_⟩) (by assumption) ?_
    case refine_2 => (intro w hSw; (try dsimp only at hSw); clear hSw; go_simp <;> with_reducible rfl)
    simp only [Act.put, List.setIfInBounds_toArray, List.set_cons_zero, List.set_cons_succ]
    refine wpAnyH_ready (rs := [38, 42]) (by decide +kernel) (by simp) ?_
    refine AllReadyH.cons (List.getElem?_toArray.trans rfl) (fun K hK => ?_) (AllReadyH.cons (List.getElem?_toArray.trans rfl) (fun K hK => ?_) AllReadyH.nil)
    · go_simp
      go_at_call 15; first | ((with_reducible refine (KW1.out _).mono ?_); rintro e wn ⟨rfl, hbn⟩; replace HB0 := Lib.hid (HB0.out.trans (hbn.mono HB0.out.size)); have hP := HPS.out _ HB0.out; (try replace HO1 := Lib.hid (own_belowN HO1.out hbn)); (try replace HVB := Lib.hid ((HVB.out.below hbn).mono hbn.size)); clear hbn) | ((with_reducible refine (KW2.out _).mono ?_); rintro e wn ⟨rfl, hbn⟩; replace HB0 := Lib.hid (HB0.out.trans (hbn.mono HB0.out.size)); have hP := HPS.out _ HB0.out; (try replace HO1 := Lib.hid (own_belowN HO1.out hbn)); (try replace HVB := Lib.hid ((HVB.out.below hbn).mono hbn.size)); clear hbn)
      refine hK.out _ _ hP (fun hHeld => ?_)
      clear hK K
      refine wpAnyH_ready (rs := [40, 42]) (by decide +kernel) (by simp) ?_
      refine AllReadyH.cons (List.getElem?_toArray.trans rfl) (fun K hK => ?_) (AllReadyH.cons (List.getElem?_toArray.trans rfl) (fun K hK => ?_) AllReadyH.nil)
      · refine step_append_vals (by rfl) _ _ _ (by rfl) wc.drew.heap.size 3 i0 (.int .i64 0) 8 Tryd.underlying22 HI0.out HZI.out HSI.out HBI.out rfl (.slice none 0 0) 0 [] (by rfl) (World.ownsRow_nil _ _ _ _) w.heap.size A n c (nums .i64 l) (by rfl) (HAW.out _ HB0.out) (nums_one l) n (Nat.zero_add n) (nums .i64 l) (List.nil_append _) (by have := HN.out; omega) (by have := HN.out; omega) HB0.out.size ?_; intro A1 k1 wa ho1 hg1; have hbn := (Below.refl _ _).grown hg1 (Nat.le_refl _) (by simp [Value.ownBlock]); replace HB0 := Lib.hid (HB0.out.trans (hbn.mono HB0.out.size)); have hP := HPS.out _ HB0.out; (try replace HO1 := Lib.hid (own_belowN HO1.out hbn)); (try replace HVB := Lib.hid ((HVB.out.below hbn).mono hbn.size)); clear hbn; have HO1 := Lib.hid ho1; clear ho1 hg1
        refine hK.out _ _ hP (fun hHeld => ?_)
        clear hK K
        refine wpAnyH_ready (rs := [42]) (by decide +kernel) (by simp) ?_
        refine AllReadyH.cons (List.getElem?_toArray.trans rfl) (fun K hK => ?_) AllReadyH.nil
        go_simp; have hbn := (Below.refl wa.heap.size wa).alloc (Nat.le_refl _) (.cells #[.int .i64 i] 3); replace HB0 := Lib.hid (HB0.out.trans (hbn.mono HB0.out.size)); have hP := HPS.out _ HB0.out; (try replace HO1 := Lib.hid (own_belowN HO1.out hbn)); (try replace HVB := Lib.hid ((HVB.out.below hbn).mono hbn.size)); clear hbn; have HVB := Lib.hid ((Vs.new wa 3 (0, 0) #[.int .i64 i]).mono (B' := (wa.alloc (.cells #[.int .i64 i] 3)).heap.size) (by simp))
        refine hK.out _ _ hP (fun hHeld => ?_)
        clear hK K
        refine wpAnyH_ready (rs := [43]) (by decide +kernel) (by simp) ?_
        refine AllReadyH.cons (List.getElem?_toArray.trans rfl) (fun K hK => ?_) AllReadyH.nil
        refine step_append_vals (by rfl) _ _ _ (by rfl) wc.drew.heap.size 3 i0 (.int .i64 0) 8 Tryd.underlying22 HI0.out HZI.out HSI.out HBI.out rfl (.slice A1 n k1) n (nums .i64 l) (by rfl) HO1.out _ _ 1 1 [.int .i64 i] (by rfl) HVB.out (by intro u hu; simp at hu; subst hu; rfl) (n + 1) rfl (nums .i64 (l ++ [i])) (by rw [← nums_append]; rfl) (by have := HN.out; omega) (by have := HN.out; omega) HB0.out.size ?_; intro A2 k2 wa ho2 hg2; replace HB0 := Lib.hid (HB0.out.grown hg2 HB0.out.size (fun q hq => (HO1.out.lt q hq).1)); have hP := HPS.out _ HB0.out; have HV2 := Lib.hid (vs_slice ho2); clear ho2 hg2
        refine hK.out _ _ hP (fun hHeld => ?_)
        clear hK K
        refine wpAnyH_ready (rs := [44]) (by decide +kernel) (by simp) ?_
        refine AllReadyH.cons (List.getElem?_toArray.trans rfl) (fun K hK => ?_) AllReadyH.nil
        go_simp
        go_at_call 7; (with_reducible refine (KOF2.out _ A2 _ k2 HV2.out).mono ?_); rintro e wn ⟨rfl, hbn⟩; clear HO1 HVB; replace HB0 := Lib.hid (HB0.out.trans (hbn.mono HB0.out.size)); have hP := HPS.out _ HB0.out; (try replace HO1 := Lib.hid (own_belowN HO1.out hbn)); (try replace HVB := Lib.hid ((HVB.out.below hbn).mono hbn.size)); clear hbn
        refine hK.out _ _ hP (fun hHeld => ?_)
        clear hK K
        refine wpAnyH_take (i := 45) (v := ?_) (List.getElem?_toArray.trans rfl) (by decide +kernel) (by decide +kernel) (by decide +kernel) (fun _ _ _ h => h) (Or.inl ⟨by rfl, ?_⟩) (by assumption) ?_
        case refine_2 => (intro w hSw; (try dsimp only at hSw); clear hSw; go_simp <;> with_reducible rfl)
        simp only [Act.put, List.setIfInBounds_toArray, List.set_cons_zero, List.set_cons_succ]
        refine wpAnyH_take (i := 46) (v := ?_) (List.getElem?_toArray.trans rfl) (by decide +kernel) (by decide +kernel) (by decide +kernel) (fun _ _ _ h => h) (Or.inl ⟨by rfl, ?_⟩) (by assumption) ?_
        case refine_2 => (intro w hSw; (try dsimp only at hSw); clear hSw; go_simp <;> with_reducible rfl)
        simp only [Act.put, List.setIfInBounds_toArray, List.set_cons_zero, List.set_cons_succ]
        refine wpAnyH_take (i := 47) (v := ?_) (List.getElem?_toArray.trans rfl) (by decide +kernel) (by decide +kernel) (by decide +kernel) (fun _ _ _ h => h) (Or.inl ⟨by rfl, ?_⟩) (by assumption) ?_
        case refine_2 => (intro w hSw; (try dsimp only at hSw); clear hSw; go_simp <;> with_reducible rfl)
        simp only [Act.put, List.setIfInBounds_toArray, List.set_cons_zero, List.set_cons_succ]
        refine wpAnyH_take (i := 48) (v := .agg cs.toArray) (List.getElem?_toArray.trans rfl) (by decide +kernel) (by decide +kernel) (by decide +kernel) (fun _ _ _ h => h) ?_ (by assumption) ?_
        · exact yieldsIf_load_mid (by rfl) 27 _ (by rfl) w2.heap.size 0 (by rfl) cs _ (fun _ h => h.1) Tryd.underlying27 (by rfl) HSZ.out
        simp only [Act.put, List.setIfInBounds_toArray, List.set_cons_zero, List.set_cons_succ]
        refine wpAnyH_take (i := 49) (v := ?_) (List.getElem?_toArray.trans rfl) (by decide +kernel) (by decide +kernel) (by decide +kernel) (fun _ _ _ h => h) (Or.inl ⟨by rfl, ?_⟩) (by assumption) ?_
        case refine_2 => (intro w hSw; (try dsimp only at hSw); clear hSw; go_simp <;> with_reducible rfl)
        simp only [Act.put, List.setIfInBounds_toArray, List.set_cons_zero, List.set_cons_succ]
        refine wpAnyH_take (i := 51) (v := ?_) (List.getElem?_toArray.trans rfl) (by decide +kernel) (by decide +kernel) (by decide +kernel) (fun _ _ _ h => h) (Or.inl ⟨by rfl, ?_⟩) (by assumption) ?_
        case refine_2 => (intro w hSw; (try dsimp only at hSw); clear hSw; go_simp <;> with_reducible rfl)
        simp only [Act.put, List.setIfInBounds_toArray, List.set_cons_zero, List.set_cons_succ]
        refine wpAnyH_take (i := 53) (v := ?_) (List.getElem?_toArray.trans rfl) (by decide +kernel) (by decide +kernel) (by decide +kernel) (fun _ _ _ h => h) (Or.inl ⟨by rfl, ?_⟩) (by assumption) ?_
        case refine_2 => (intro w hSw; (try dsimp only at hSw); clear hSw; go_simp <;> with_reducible rfl)
        simp only [Act.put, List.setIfInBounds_toArray, List.set_cons_zero, List.set_cons_succ]
        refine wpAnyH_take (i := 55) (v := ?_) (List.getElem?_toArray.trans rfl) (by decide +kernel) (by decide +kernel) (by decide +kernel) (fun _ _ _ h => h) (Or.inl ⟨by rfl, ?_⟩) (by assumption) ?_
        case refine_2 => (intro w hSw; (try dsimp only at hSw); clear hSw; go_simp <;> with_reducible rfl)
        simp only [Act.put, List.setIfInBounds_toArray, List.set_cons_zero, List.set_cons_succ]
        refine wpAnyH_ready (rs := [50]) (by decide +kernel) (by simp) ?_
        refine AllReadyH.cons (List.getElem?_toArray.trans rfl) (fun K hK => ?_) AllReadyH.nil
        go_simp
        go_at_call 16; first | ((with_reducible refine (KWO.out _).mono ?_); rintro e wn ⟨rfl, hbn⟩; replace HB0 := Lib.hid (HB0.out.trans (hbn.mono HB0.out.size)); have hP := HPS.out _ HB0.out; (try replace HO1 := Lib.hid (own_belowN HO1.out hbn)); (try replace HVB := Lib.hid ((HVB.out.below hbn).mono hbn.size)); clear hbn)
        refine hK.out _ _ hP (fun hHeld => ?_)
        clear hK K
        refine wpAnyH_ready (rs := [52]) (by decide +kernel) (by simp) ?_
        refine AllReadyH.cons (List.getElem?_toArray.trans rfl) (fun K hK => ?_) AllReadyH.nil
        go_simp
        go_at_call 15; first | ((with_reducible refine (KW1.out _).mono ?_); rintro e wn ⟨rfl, hbn⟩; replace HB0 := Lib.hid (HB0.out.trans (hbn.mono HB0.out.size)); have hP := HPS.out _ HB0.out; (try replace HO1 := Lib.hid (own_belowN HO1.out hbn)); (try replace HVB := Lib.hid ((HVB.out.below hbn).mono hbn.size)); clear hbn) | ((with_reducible refine (KW2.out _).mono ?_); rintro e wn ⟨rfl, hbn⟩; replace HB0 := Lib.hid (HB0.out.trans (hbn.mono HB0.out.size)); have hP := HPS.out _ HB0.out; (try replace HO1 := Lib.hid (own_belowN HO1.out hbn)); (try replace HVB := Lib.hid ((HVB.out.below hbn).mono hbn.size)); clear hbn)
        refine hK.out _ _ hP (fun hHeld => ?_)
        clear hK K
        refine wpAnyH_ready (rs := [54]) (by decide +kernel) (by simp) ?_
        refine AllReadyH.cons (List.getElem?_toArray.trans rfl) (fun K hK => ?_) AllReadyH.nil
        go_simp
        go_at_call 14; first | ((with_reducible refine (KH1.out _).mono ?_); rintro e wn ⟨rfl, hbn⟩; replace HB0 := Lib.hid (HB0.out.trans (hbn.mono HB0.out.size)); have hP := HPS.out _ HB0.out; (try replace HO1 := Lib.hid (own_belowN HO1.out hbn)); (try replace HVB := Lib.hid ((HVB.out.below hbn).mono hbn.size)); clear hbn) | ((with_reducible refine (KH2.out _).mono ?_); rintro e wn ⟨rfl, hbn⟩; replace HB0 := Lib.hid (HB0.out.trans (hbn.mono HB0.out.size)); have hP := HPS.out _ HB0.out; (try replace HO1 := Lib.hid (own_belowN HO1.out hbn)); (try replace HVB := Lib.hid ((HVB.out.below hbn).mono hbn.size)); clear hbn) | ((with_reducible refine (KH3.out _).mono ?_); rintro e wn ⟨rfl, hbn⟩; replace HB0 := Lib.hid (HB0.out.trans (hbn.mono HB0.out.size)); have hP := HPS.out _ HB0.out; (try replace HO1 := Lib.hid (own_belowN HO1.out hbn)); (try replace HVB := Lib.hid ((HVB.out.below hbn).mono hbn.size)); clear hbn) | ((with_reducible refine (KH4.out _).mono ?_); rintro e wn ⟨rfl, hbn⟩; replace HB0 := Lib.hid (HB0.out.trans (hbn.mono HB0.out.size)); have hP := HPS.out _ HB0.out; (try replace HO1 := Lib.hid (own_belowN HO1.out hbn)); (try replace HVB := Lib.hid ((HVB.out.below hbn).mono hbn.size)); clear hbn)
        refine hK.out _ _ hP (fun hHeld => ?_)
        clear hK K
        refine wpAnyH_take (i := 56) (v := ?_) (List.getElem?_toArray.trans rfl) (by decide +kernel) (by decide +kernel) (by decide +kernel) (fun _ _ _ h => h) (Or.inl ⟨by rfl, ?_⟩) (by assumption) ?_
        case refine_2 => (intro w hSw; (try dsimp only at hSw); clear hSw; go_simp <;> with_reducible rfl)
        simp only [Act.put, List.setIfInBounds_toArray, List.set_cons_zero, List.set_cons_succ]
        refine wpAnyH_take (i := 57) (v := ?_) (List.getElem?_toArray.trans rfl) (by decide +kernel) (by decide +kernel) (by decide +kernel) (fun _ _ _ h => h) (Or.inl ⟨by rfl, ?_⟩) (by assumption) ?_
        case refine_2 => (intro w hSw; (try dsimp only at hSw); clear hSw; go_simp <;> with_reducible rfl)
        simp only [Act.put, List.setIfInBounds_toArray, List.set_cons_zero, List.set_cons_succ]
        refine wpAnyH_take (i := 58) (v := ?_) (List.getElem?_toArray.trans rfl) (by decide +kernel) (by decide +kernel) (by decide +kernel) (fun _ _ _ h => h) (Or.inl ⟨by rfl, ?_⟩) (by assumption) ?_
        case refine_2 => (intro w hSw; (try dsimp only at hSw); clear hSw; go_simp <;> with_reducible rfl)
        simp only [Act.put, List.setIfInBounds_toArray, List.set_cons_zero, List.set_cons_succ]
        refine wpAnyH_take (i := 59) (v := ?_) (List.getElem?_toArray.trans rfl) (by decide +kernel) (by decide +kernel) (by decide +kernel) (fun _ _ _ h => h) (Or.inl ⟨by rfl, ?_⟩) (by assumption) ?_
        case refine_2 => (intro w hSw; (try dsimp only at hSw); clear hSw; go_simp <;> with_reducible rfl)
        simp only [Act.put, List.setIfInBounds_toArray, List.set_cons_zero, List.set_cons_succ]
        refine wpAnyH_take (i := 60) (v := ?_) (List.getElem?_toArray.trans rfl) (by decide +kernel) (by decide +kernel) (by decide +kernel) (fun _ _ _ h => h) (Or.inl ⟨by rfl, ?_⟩) (by assumption) ?_
        case refine_2 => (intro w hSw; (try dsimp only at hSw); clear hSw; go_simp <;> with_reducible rfl)
        simp only [Act.put, List.setIfInBounds_toArray, List.set_cons_zero, List.set_cons_succ]
        refine wpAnyH_take (i := 61) (v := .agg cs.toArray) (List.getElem?_toArray.trans rfl) (by decide +kernel) (by decide +kernel) (by decide +kernel) (fun _ _ _ h => h) ?_ (by assumption) ?_
        · exact yieldsIf_load_mid (by rfl) 27 _ (by rfl) w2.heap.size 0 (by rfl) cs _ (fun _ h => h.1) Tryd.underlying27 (by rfl) HSZ.out
        simp only [Act.put, List.setIfInBounds_toArray, List.set_cons_zero, List.set_cons_succ]
        refine wpAnyH_take (i := 62) (v := ?_) (List.getElem?_toArray.trans rfl) (by decide +kernel) (by decide +kernel) (by decide +kernel) (fun _ _ _ h => h) (Or.inl ⟨by rfl, ?_⟩) (by assumption) ?_
        case refine_2 => (intro w hSw; (try dsimp only at hSw); clear hSw; go_simp <;> with_reducible rfl)
        simp only [Act.put, List.setIfInBounds_toArray, List.set_cons_zero, List.set_cons_succ]
        refine wpAnyH_take (i := 64) (v := .agg cs.toArray) (List.getElem?_toArray.trans rfl) (by decide +kernel) (by decide +kernel) (by decide +kernel) (fun _ _ _ h => h) ?_ (by assumption) ?_
        · exact yieldsIf_load_mid (by rfl) 27 _ (by rfl) w2.heap.size 0 (by rfl) cs _ (fun _ h => h.1) Tryd.underlying27 (by rfl) HSZ.out
        simp only [Act.put, List.setIfInBounds_toArray, List.set_cons_zero, List.set_cons_succ]
        refine wpAnyH_ready (rs := [63]) (by decide +kernel) (by simp) ?_
        refine AllReadyH.cons (List.getElem?_toArray.trans rfl) (fun K hK => ?_) AllReadyH.nil
        go_simp
        go_at_call 16; first | ((with_reducible refine (KWO.out _).mono ?_); rintro e wn ⟨rfl, hbn⟩; replace HB0 := Lib.hid (HB0.out.trans (hbn.mono HB0.out.size)); have hP := HPS.out _ HB0.out; (try replace HO1 := Lib.hid (own_belowN HO1.out hbn)); (try replace HVB := Lib.hid ((HVB.out.below hbn).mono hbn.size)); clear hbn)
        refine hK.out _ _ hP (fun hHeld => ?_)
        clear hK K
        refine wpAnyH_take (i := 65) (v := ?_) (List.getElem?_toArray.trans rfl) (by decide +kernel) (by decide +kernel) (by decide +kernel) (fun _ _ _ h => h) (Or.inl ⟨by rfl, ?_⟩) (by assumption) ?_
        case refine_2 => (intro w hSw; (try dsimp only at hSw); clear hSw; go_simp <;> with_reducible rfl)
        simp only [Act.put, List.setIfInBounds_toArray, List.set_cons_zero, List.set_cons_succ]
        refine wpAnyH_take (i := 66) (v := ?_) (List.getElem?_toArray.trans rfl) (by decide +kernel) (by decide +kernel) (by decide +kernel) (fun _ _ _ h => h) (Or.inl ⟨by rfl, ?_⟩) (by assumption) ?_
        case refine_2 => (intro w hSw; (try dsimp only at hSw); clear hSw; go_simp <;> with_reducible rfl)
        simp only [Act.put, List.setIfInBounds_toArray, List.set_cons_zero, List.set_cons_succ]
        refine wpAnyH_take (i := 67) (v := ?_) (List.getElem?_toArray.trans rfl) (by decide +kernel) (by decide +kernel) (by decide +kernel) (fun _ _ _ h => h) (Or.inl ⟨by rfl, ?_⟩) (by assumption) ?_
        case refine_2 => (intro w hSw; (try dsimp only at hSw); clear hSw; go_simp <;> with_reducible rfl)
        simp only [Act.put, List.setIfInBounds_toArray, List.set_cons_zero, List.set_cons_succ]
        refine wpAnyH_ready (rs := [68]) (by decide +kernel) (by simp) ?_
        refine AllReadyH.cons (List.getElem?_toArray.trans rfl) (fun K hK => ?_) AllReadyH.nil
        have cR := (HRES.out _ HB0.out).cell; have fR := (HRES.out _ HB0.out).frozen; go_simp; have hP := HPS2.out _ HB0.out
        refine hK.out _ _ hP (fun hHeld => ?_)
        clear hK K
        refine wpAnyH_done (by decide +kernel) ?_ _
        refine NoPanic.normal ?_
        go_wp2
        refine ⟨by simp, .inl ⟨_, _, rfl, run_takeDeferred (HFIN.out _ HB0.out).2, ?_⟩⟩
        exact ⟨_, res_tells rfl (HFIN.out _ HB0.out).1.1, rfl, (HFIN.out _ HB0.out).1.2⟩
      · go_simp; have hbn := (Below.refl wn.heap.size wn).alloc (Nat.le_refl _) (.cells #[.int .i64 i] 3); replace HB0 := Lib.hid (HB0.out.trans (hbn.mono HB0.out.size)); have hP := HPS.out _ HB0.out; (try replace HO1 := Lib.hid (own_belowN HO1.out hbn)); (try replace HVB := Lib.hid ((HVB.out.below hbn).mono hbn.size)); clear hbn; have HVB := Lib.hid ((Vs.new wn 3 (0, 0) #[.int .i64 i]).mono (B' := (wn.alloc (.cells #[.int .i64 i] 3)).heap.size) (by simp))
        refine hK.out _ _ hP (fun hHeld => ?_)
        clear hK K
        refine wpAnyH_ready (rs := [40]) (by decide +kernel) (by simp) ?_
        refine AllReadyH.cons (List.getElem?_toArray.trans rfl) (fun K hK => ?_) AllReadyH.nil
        refine step_append_vals (by rfl) _ _ _ (by rfl) wc.drew.heap.size 3 i0 (.int .i64 0) 8 Tryd.underlying22 HI0.out HZI.out HSI.out HBI.out rfl (.slice none 0 0) 0 [] (by rfl) (World.ownsRow_nil _ _ _ _) w.heap.size A n c (nums .i64 l) (by rfl) (HAW.out _ HB0.out) (nums_one l) n (Nat.zero_add n) (nums .i64 l) (List.nil_append _) (by have := HN.out; omega) (by have := HN.out; omega) HB0.out.size ?_; intro A1 k1 wa ho1 hg1; have hbn := (Below.refl _ _).grown hg1 (Nat.le_refl _) (by simp [Value.ownBlock]); replace HB0 := Lib.hid (HB0.out.trans (hbn.mono HB0.out.size)); have hP := HPS.out _ HB0.out; (try replace HO1 := Lib.hid (own_belowN HO1.out hbn)); (try replace HVB := Lib.hid ((HVB.out.below hbn).mono hbn.size)); clear hbn; have HO1 := Lib.hid ho1; clear ho1 hg1
        refine hK.out _ _ hP (fun hHeld => ?_)
        clear hK K
        refine wpAnyH_ready (rs := [43]) (by decide +kernel) (by simp) ?_
        refine AllReadyH.cons (List.getElem?_toArray.trans rfl) (fun K hK => ?_) AllReadyH.nil
        refine step_append_vals (by rfl) _ _ _ (by rfl) wc.drew.heap.size 3 i0 (.int .i64 0) 8 Tryd.underlying22 HI0.out HZI.out HSI.out HBI.out rfl (.slice A1 n k1) n (nums .i64 l) (by rfl) HO1.out _ _ 1 1 [.int .i64 i] (by rfl) HVB.out (by intro u hu; simp at hu; subst hu; rfl) (n + 1) rfl (nums .i64 (l ++ [i])) (by rw [← nums_append]; rfl) (by have := HN.out; omega) (by have := HN.out; omega) HB0.out.size ?_; intro A2 k2 wa ho2 hg2; replace HB0 := Lib.hid (HB0.out.grown hg2 HB0.out.size (fun q hq => (HO1.out.lt q hq).1)); have hP := HPS.out _ HB0.out; have HV2 := Lib.hid (vs_slice ho2); clear ho2 hg2
        refine hK.out _ _ hP (fun hHeld => ?_)
        clear hK K
        refine wpAnyH_ready (rs := [44]) (by decide +kernel) (by simp) ?_
        refine AllReadyH.cons (List.getElem?_toArray.trans rfl) (fun K hK => ?_) AllReadyH.nil
        go_simp
        go_at_call 7; (with_reducible refine (KOF2.out _ A2 _ k2 HV2.out).mono ?_); rintro e wn ⟨rfl, hbn⟩; clear HO1 HVB; replace HB0 := Lib.hid (HB0.out.trans (hbn.mono HB0.out.size)); have hP := HPS.out _ HB0.out; (try replace HO1 := Lib.hid (own_belowN HO1.out hbn)); (try replace HVB := Lib.hid ((HVB.out.below hbn).mono hbn.size)); clear hbn
        refine hK.out _ _ hP (fun hHeld => ?_)
        clear hK K
        refine wpAnyH_take (i := 45) (v := ?_) (List.getElem?_toArray.trans rfl) (by decide +kernel) (by decide +kernel) (by decide +kernel) (fun _ _ _ h => h) (Or.inl ⟨by rfl, ?_⟩) (by assumption) ?_
        case refine_2 => (intro w hSw; (try dsimp only at hSw); clear hSw; go_simp <;> with_reducible rfl)
        simp only [Act.put, List.setIfInBounds_toArray, List.set_cons_zero, List.set_cons_succ]
        refine wpAnyH_take (i := 46) (v := ?_) (List.getElem?_toArray.trans rfl) (by decide +kernel) (by decide +kernel) (by decide +kernel) (fun _ _ _ h => h) (Or.inl ⟨by rfl, ?_⟩) (by assumption) ?_
        case refine_2 => (intro w hSw; (try dsimp only at hSw); clear hSw; go_simp <;> with_reducible rfl)
        simp only [Act.put, List.setIfInBounds_toArray, List.set_cons_zero, List.set_cons_succ]
        refine wpAnyH_take (i := 47) (v := ?_) (List.getElem?_toArray.trans rfl) (by decide +kernel) (by decide +kernel) (by decide +kernel) (fun _ _ _ h => h) (Or.inl ⟨by rfl, ?_⟩) (by assumption) ?_
        case refine_2 => (intro w hSw; (try dsimp only at hSw); clear hSw; go_simp <;> with_reducible rfl)
        simp only [Act.put, List.setIfInBounds_toArray, List.set_cons_zero, List.set_cons_succ]
        refine wpAnyH_take (i := 48) (v := .agg cs.toArray) (List.getElem?_toArray.trans rfl) (by decide +kernel) (by decide +kernel) (by decide +kernel) (fun _ _ _ h => h) ?_ (by assumption) ?_
        · exact yieldsIf_load_mid (by rfl) 27 _ (by rfl) w2.heap.size 0 (by rfl) cs _ (fun _ h => h.1) Tryd.underlying27 (by rfl) HSZ.out
        simp only [Act.put, List.setIfInBounds_toArray, List.set_cons_zero, List.set_cons_succ]
        refine wpAnyH_take (i := 49) (v := ?_) (List.getElem?_toArray.trans rfl) (by decide +kernel) (by decide +kernel) (by decide +kernel) (fun _ _ _ h => h) (Or.inl ⟨by rfl, ?_⟩) (by assumption) ?_
        case refine_2 => (intro w hSw; (try dsimp only at hSw); clear hSw; go_simp <;> with_reducible rfl)
        simp only [Act.put, List.setIfInBounds_toArray, List.set_cons_zero, List.set_cons_succ]
        refine wpAnyH_take (i := 51) (v := ?_) (List.getElem?_toArray.trans rfl) (by decide +kernel) (by decide +kernel) (by decide +kernel) (fun _ _ _ h => h) (Or.inl ⟨by rfl, ?_⟩) (by assumption) ?_
        case refine_2 => (intro w hSw; (try dsimp only at hSw); clear hSw; go_simp <;> with_reducible rfl)
        simp only [Act.put, List.setIfInBounds_toArray, List.set_cons_zero, List.set_cons_succ]
        refine wpAnyH_take (i := 53) (v := ?_) (List.getElem?_toArray.trans rfl) (by decide +kernel) (by decide +kernel) (by decide +kernel) (fun _ _ _ h => h) (Or.inl ⟨by rfl, ?_⟩) (by assumption) ?_
        case refine_2 => (intro w hSw; (try dsimp only at hSw); clear hSw; go_simp <;> with_reducible rfl)
        simp only [Act.put, List.setIfInBounds_toArray, List.set_cons_zero, List.set_cons_succ]
        refine wpAnyH_take (i := 55) (v := ?_) (List.getElem?_toArray.trans rfl) (by decide +kernel) (by decide +kernel) (by decide +kernel) (fun _ _ _ h => h) (Or.inl ⟨by rfl, ?_⟩) (by assumption) ?_
        case refine_2 => (intro w hSw; (try dsimp only at hSw); clear hSw; go_simp <;> with_reducible rfl)
        simp only [Act.put, List.setIfInBounds_toArray, List.set_cons_zero, List.set_cons_succ]
        refine wpAnyH_ready (rs := [50]) (by decide +kernel) (by simp) ?_
        refine AllReadyH.cons (List.getElem?_toArray.trans rfl) (fun K hK => ?_) AllReadyH.nil
        go_simp
        go_at_call 16; first | ((with_reducible refine (KWO.out _).mono ?_); rintro e wn ⟨rfl, hbn⟩; replace HB0 := Lib.hid (HB0.out.trans (hbn.mono HB0.out.size)); have hP := HPS.out _ HB0.out; (try replace HO1 := Lib.hid (own_belowN HO1.out hbn)); (try replace HVB := Lib.hid ((HVB.out.below hbn).mono hbn.size)); clear hbn)
        refine hK.out _ _ hP (fun hHeld => ?_)
        clear hK K
        refine wpAnyH_ready (rs := [52]) (by decide +kernel) (by simp) ?_
        refine AllReadyH.cons (List.getElem?_toArray.trans rfl) (fun K hK => ?_) AllReadyH.nil
        go_simp
        go_at_call 15; first | ((with_reducible refine (KW1.out _).mono ?_); rintro e wn ⟨rfl, hbn⟩; replace HB0 := Lib.hid (HB0.out.trans (hbn.mono HB0.out.size)); have hP := HPS.out _ HB0.out; (try replace HO1 := Lib.hid (own_belowN HO1.out hbn)); (try replace HVB := Lib.hid ((HVB.out.below hbn).mono hbn.size)); clear hbn) | ((with_reducible refine (KW2.out _).mono ?_); rintro e wn ⟨rfl, hbn⟩; replace HB0 := Lib.hid (HB0.out.trans (hbn.mono HB0.out.size)); have hP := HPS.out _ HB0.out; (try replace HO1 := Lib.hid (own_belowN HO1.out hbn)); (try replace HVB := Lib.hid ((HVB.out.below hbn).mono hbn.size)); clear hbn)
        refine hK.out _ _ hP (fun hHeld => ?_)
        clear hK K
        refine wpAnyH_ready (rs := [54]) (by decide +kernel) (by simp) ?_
        refine AllReadyH.cons (List.getElem?_toArray.trans rfl) (fun K hK => ?_) AllReadyH.nil
        go_simp
        go_at_call 14; first | ((with_reducible refine (KH1.out _).mono ?_); rintro e wn ⟨rfl, hbn⟩; replace HB0 := Lib.hid (HB0.out.trans (hbn.mono HB0.out.size)); have hP := HPS.out _ HB0.out; (try replace HO1 := Lib.hid (own_belowN HO1.out hbn)); (try replace HVB := Lib.hid ((HVB.out.below hbn).mono hbn.size)); clear hbn) | ((with_reducible refine (KH2.out _).mono ?_); rintro e wn ⟨rfl, hbn⟩; replace HB0 := Lib.hid (HB0.out.trans (hbn.mono HB0.out.size)); have hP := HPS.out _ HB0.out; (try replace HO1 := Lib.hid (own_belowN HO1.out hbn)); (try replace HVB := Lib.hid ((HVB.out.below hbn).mono hbn.size)); clear hbn) | ((with_reducible refine (KH3.out _).mono ?_); rintro e wn ⟨rfl, hbn⟩; replace HB0 := Lib.hid (HB0.out.trans (hbn.mono HB0.out.size)); have hP := HPS.out _ HB0.out; (try replace HO1 := Lib.hid (own_belowN HO1.out hbn)); (try replace HVB := Lib.hid ((HVB.out.below hbn).mono hbn.size)); clear hbn) | ((with_reducible refine (KH4.out _).mono ?_); rintro e wn ⟨rfl, hbn⟩; replace HB0 := Lib.hid (HB0.out.trans (hbn.mono HB0.out.size)); have hP := HPS.out _ HB0.out; (try replace HO1 := Lib.hid (own_belowN HO1.out hbn)); (try replace HVB := Lib.hid ((HVB.out.below hbn).mono hbn.size)); clear hbn)
        refine hK.out _ _ hP (fun hHeld => ?_)
        clear hK K
        refine wpAnyH_take (i := 56) (v := ?_) (List.getElem?_toArray.trans rfl) (by decide +kernel) (by decide +kernel) (by decide +kernel) (fun _ _ _ h => h) (Or.inl ⟨by rfl, ?_⟩) (by assumption) ?_
        case refine_2 => (intro w hSw; (try dsimp only at hSw); clear hSw; go_simp <;> with_reducible rfl)
        simp only [Act.put, List.setIfInBounds_toArray, List.set_cons_zero, List.set_cons_succ]
        refine wpAnyH_take (i := 57) (v := ?_) (List.getElem?_toArray.trans rfl) (by decide +kernel) (by decide +kernel) (by decide +kernel) (fun _ _ _ h => h) (Or.inl ⟨by rfl, ?_⟩) (by assumption) ?_
        case refine_2 => (intro w hSw; (try dsimp only at hSw); clear hSw; go_simp <;> with_reducible rfl)
        simp only [Act.put, List.setIfInBounds_toArray, List.set_cons_zero, List.set_cons_succ]
        refine wpAnyH_take (i := 58) (v := ?_) (List.getElem?_toArray.trans rfl) (by decide +kernel) (by decide +kernel) (by decide +kernel) (fun _ _ _ h => h) (Or.inl ⟨by rfl, ?_⟩) (by assumption) ?_
        case refine_2 => (intro w hSw; (try dsimp only at hSw); clear hSw; go_simp <;> with_reducible rfl)
        simp only [Act.put, List.setIfInBounds_toArray, List.set_cons_zero, List.set_cons_succ]
        refine wpAnyH_take (i := 59) (v := ?_) (List.getElem?_toArray.trans rfl) (by decide +kernel) (by decide +kernel) (by decide +kernel) (fun _ _ _ h => h) (Or.inl ⟨by rfl, ?_⟩) (by assumption) ?_
        case refine_2 => (intro w hSw; (try dsimp only at hSw); clear hSw; go_simp <;> with_reducible rfl)
        simp only [Act.put, List.setIfInBounds_toArray, List.set_cons_zero, List.set_cons_succ]
        refine wpAnyH_take (i := 60) (v := ?_) (List.getElem?_toArray.trans rfl) (by decide +kernel) (by decide +kernel) (by decide +kernel) (fun _ _ _ h => h) (Or.inl ⟨by rfl, ?_⟩) (by assumption) ?_
        case refine_2 => (intro w hSw; (try dsimp only at hSw); clear hSw; go_simp <;> with_reducible rfl)
        simp only [Act.put, List.setIfInBounds_toArray, List.set_cons_zero, List.set_cons_succ]
        refine wpAnyH_take (i := 61) (v := .agg cs.toArray) (List.getElem?_toArray.trans rfl) (by decide +kernel) (by decide +kernel) (by decide +kernel) (fun _ _ _ h => h) ?_ (by assumption) ?_
        · exact yieldsIf_load_mid (by rfl) 27 _ (by rfl) w2.heap.size 0 (by rfl) cs _ (fun _ h => h.1) Tryd.underlying27 (by rfl) HSZ.out
        simp only [Act.put, List.setIfInBounds_toArray, List.set_cons_zero, List.set_cons_succ]
        refine wpAnyH_take (i := 62) (v := ?_) (List.getElem?_toArray.trans rfl) (by decide +kernel) (by decide +kernel) (by decide +kernel) (fun _ _ _ h => h) (Or.inl ⟨by rfl, ?_⟩) (by assumption) ?_
        case refine_2 => (intro w hSw; (try dsimp only at hSw); clear hSw; go_simp <;> with_reducible rfl)
        simp only [Act.put, List.setIfInBounds_toArray, List.set_cons_zero, List.set_cons_succ]
        refine wpAnyH_take (i := 64) (v := .agg cs.toArray) (List.getElem?_toArray.trans rfl) (by decide +kernel) (by decide +kernel) (by decide +kernel) (fun _ _ _ h => h) ?_ (by assumption) ?_
        · exact yieldsIf_load_mid (by rfl) 27 _ (by rfl) w2.heap.size 0 (by rfl) cs _ (fun _ h => h.1) Tryd.underlying27 (by rfl) HSZ.out
        simp only [Act.put, List.setIfInBounds_toArray, List.set_cons_zero, List.set_cons_succ]
        refine wpAnyH_ready (rs := [63]) (by decide +kernel) (by simp) ?_
        refine AllReadyH.cons (List.getElem?_toArray.trans rfl) (fun K hK => ?_) AllReadyH.nil
        go_simp
        go_at_call 16; first | ((with_reducible refine (KWO.out _).mono ?_); rintro e wn ⟨rfl, hbn⟩; replace HB0 := Lib.hid (HB0.out.trans (hbn.mono HB0.out.size)); have hP := HPS.out _ HB0.out; (try replace HO1 := Lib.hid (own_belowN HO1.out hbn)); (try replace HVB := Lib.hid ((HVB.out.below hbn).mono hbn.size)); clear hbn)
        refine hK.out _ _ hP (fun hHeld => ?_)
        clear hK K
        refine wpAnyH_take (i := 65) (v := ?_) (List.getElem?_toArray.trans rfl) (by decide +kernel) (by decide +kernel) (by decide +kernel) (fun _ _ _ h => h) (Or.inl ⟨by rfl, ?_⟩) (by assumption) ?_
        case refine_2 => (intro w hSw; (try dsimp only at hSw); clear hSw; go_simp <;> with_reducible rfl)
        simp only [Act.put, List.setIfInBounds_toArray, List.set_cons_zero, List.set_cons_succ]
        refine wpAnyH_take (i := 66) (v := ?_) (List.getElem?_toArray.trans rfl) (by decide +kernel) (by decide +kernel) (by decide +kernel) (fun _ _ _ h => h) (Or.inl ⟨by rfl, ?_⟩) (by assumption) ?_
        case refine_2 => (intro w hSw; (try dsimp only at hSw); clear hSw; go_simp <;> with_reducible rfl)
        simp only [Act.put, List.setIfInBounds_toArray, List.set_cons_zero, List.set_cons_succ]
        refine wpAnyH_take (i := 67) (v := ?_) (List.getElem?_toArray.trans rfl) (by decide +kernel) (by decide +kernel) (by decide +kernel) (fun _ _ _ h => h) (Or.inl ⟨by rfl, ?_⟩) (by assumption) ?_
        case refine_2 => (intro w hSw; (try dsimp only at hSw); clear hSw; go_simp <;> with_reducible rfl)
        simp only [Act.put, List.setIfInBounds_toArray, List.set_cons_zero, List.set_cons_succ]
        refine wpAnyH_ready (rs := [68]) (by decide +kernel) (by simp) ?_
        refine AllReadyH.cons (List.getElem?_toArray.trans rfl) (fun K hK => ?_) AllReadyH.nil
        have cR := (HRES.out _ HB0.out).cell; have fR := (HRES.out _ HB0.out).frozen; go_simp; have hP := HPS2.out _ HB0.out
        refine hK.out _ _ hP (fun hHeld => ?_)
        clear hK K
        refine wpAnyH_done (by decide +kernel) ?_ _
        refine NoPanic.normal ?_
        go_wp2
        refine ⟨by simp, .inl ⟨_, _, rfl, run_takeDeferred (HFIN.out _ HB0.out).2, ?_⟩⟩
        exact ⟨_, res_tells rfl (HFIN.out _ HB0.out).1.1, rfl, (HFIN.out _ HB0.out).1.2⟩
    · go_simp; have hbn := (Below.refl wn.heap.size wn).alloc (Nat.le_refl _) (.cells #[.int .i64 i] 3); replace HB0 := Lib.hid (HB0.out.trans (hbn.mono HB0.out.size)); have hP := HPS.out _ HB0.out; (try replace HO1 := Lib.hid (own_belowN HO1.out hbn)); (try replace HVB := Lib.hid ((HVB.out.below hbn).mono hbn.size)); clear hbn; have HVB := Lib.hid ((Vs.new wn 3 (0, 0) #[.int .i64 i]).mono (B' := (wn.alloc (.cells #[.int .i64 i] 3)).heap.size) (by simp))
      refine hK.out _ _ hP (fun hHeld => ?_)
      clear hK K
      refine wpAnyH_ready (rs := [38]) (by decide +kernel) (by simp) ?_
      refine AllReadyH.cons (List.getElem?_toArray.trans rfl) (fun K hK => ?_) AllReadyH.nil
      go_simp
      go_at_call 15; first | ((with_reducible refine (KW1.out _).mono ?_); rintro e wn ⟨rfl, hbn⟩; replace HB0 := Lib.hid (HB0.out.trans (hbn.mono HB0.out.size)); have hP := HPS.out _ HB0.out; (try replace HO1 := Lib.hid (own_belowN HO1.out hbn)); (try replace HVB := Lib.hid ((HVB.out.below hbn).mono hbn.size)); clear hbn) | ((with_reducible refine (KW2.out _).mono ?_); rintro e wn ⟨rfl, hbn⟩; replace HB0 := Lib.hid (HB0.out.trans (hbn.mono HB0.out.size)); have hP := HPS.out _ HB0.out; (try replace HO1 := Lib.hid (own_belowN HO1.out hbn)); (try replace HVB := Lib.hid ((HVB.out.below hbn).mono hbn.size)); clear hbn)
      refine hK.out _ _ hP (fun hHeld => ?_)
      clear hK K
      refine wpAnyH_ready (rs := [40]) (by decide +kernel) (by simp) ?_
      refine AllReadyH.cons (List.getElem?_toArray.trans rfl) (fun K hK => ?_) AllReadyH.nil
      refine step_append_vals (by rfl) _ _ _ (by rfl) wc.drew.heap.size 3 i0 (.int .i64 0) 8 Tryd.underlying22 HI0.out HZI.out HSI.out HBI.out rfl (.slice none 0 0) 0 [] (by rfl) (World.ownsRow_nil _ _ _ _) w.heap.size A n c (nums .i64 l) (by rfl) (HAW.out _ HB0.out) (nums_one l) n (Nat.zero_add n) (nums .i64 l) (List.nil_append _) (by have := HN.out; omega) (by have := HN.out; omega) HB0.out.size ?_; intro A1 k1 wa ho1 hg1; have hbn := (Below.refl _ _).grown hg1 (Nat.le_refl _) (by simp [Value.ownBlock]); replace HB0 := Lib.hid (HB0.out.trans (hbn.mono HB0.out.size)); have hP := HPS.out _ HB0.out; (try replace HO1 := Lib.hid (own_belowN HO1.out hbn)); (try replace HVB := Lib.hid ((HVB.out.below hbn).mono hbn.size)); clear hbn; have HO1 := Lib.hid ho1; clear ho1 hg1
      refine hK.out _ _ hP (fun hHeld => ?_)
      clear hK K
      refine wpAnyH_ready (rs := [43]) (by decide +kernel) (by simp) ?_
      refine AllReadyH.cons (List.getElem?_toArray.trans rfl) (fun K hK => ?_) AllReadyH.nil
      refine step_append_vals (by rfl) _ _ _ (by rfl) wc.drew.heap.size 3 i0 (.int .i64 0) 8 Tryd.underlying22 HI0.out HZI.out HSI.out HBI.out rfl (.slice A1 n k1) n (nums .i64 l) (by rfl) HO1.out _ _ 1 1 [.int .i64 i] (by rfl) HVB.out (by intro u hu; simp at hu; subst hu; rfl) (n + 1) rfl (nums .i64 (l ++ [i])) (by rw [← nums_append]; rfl) (by have := HN.out; omega) (by have := HN.out; omega) HB0.out.size ?_; intro A2 k2 wa ho2 hg2; replace HB0 := Lib.hid (HB0.out.grown hg2 HB0.out.size (fun q hq => (HO1.out.lt q hq).1)); have hP := HPS.out _ HB0.out; have HV2 := Lib.hid (vs_slice ho2); clear ho2 hg2
      refine hK.out _ _ hP (fun hHeld => ?_)
      clear hK K
      refine wpAnyH_ready (rs := [44]) (by decide +kernel) (by simp) ?_
      refine AllReadyH.cons (List.getElem?_toArray.trans rfl) (fun K hK => ?_) AllReadyH.nil
      go_simp
      go_at_call 7; (with_reducible refine (KOF2.out _ A2 _ k2 HV2.out).mono ?_); rintro e wn ⟨rfl, hbn⟩; clear HO1 HVB; replace HB0 := Lib.hid (HB0.out.trans (hbn.mono HB0.out.size)); have hP := HPS.out _ HB0.out; (try replace HO1 := Lib.hid (own_belowN HO1.out hbn)); (try replace HVB := Lib.hid ((HVB.out.below hbn).mono hbn.size)); clear hbn
      refine hK.out _ _ hP (fun hHeld => ?_)
      clear hK K
      refine wpAnyH_take (i := 45) (v := ?_) (List.getElem?_toArray.trans rfl) (by decide +kernel) (by decide +kernel) (by decide +kernel) (fun _ _ _ h => h) (Or.inl ⟨by rfl, ?_⟩) (by assumption) ?_
      case refine_2 => (intro w hSw; (try dsimp only at hSw); clear hSw; go_simp <;> with_reducible rfl)
      simp only [Act.put, List.setIfInBounds_toArray, List.set_cons_zero, List.set_cons_succ]
      refine wpAnyH_take (i := 46) (v := ?_) (List.getElem?_toArray.trans rfl) (by decide +kernel) (by decide +kernel) (by decide +kernel) (fun _ _ _ h => h) (Or.inl ⟨by rfl, ?_⟩) (by assumption) ?_
      case refine_2 => (intro w hSw; (try dsimp only at hSw); clear hSw; go_simp <;> with_reducible rfl)
      simp only [Act.put, List.setIfInBounds_toArray, List.set_cons_zero, List.set_cons_succ]
      refine wpAnyH_take (i := 47) (v := ?_) (List.getElem?_toArray.trans rfl) (by decide +kernel) (by decide +kernel) (by decide +kernel) (fun _ _ _ h => h) (Or.inl ⟨by rfl, ?_⟩) (by assumption) ?_
      case refine_2 => (intro w hSw; (try dsimp only at hSw); clear hSw; go_simp <;> with_reducible rfl)
      simp only [Act.put, List.setIfInBounds_toArray, List.set_cons_zero, List.set_cons_succ]
      refine wpAnyH_take (i := 48) (v := .agg cs.toArray) (List.getElem?_toArray.trans rfl) (by decide +kernel) (by decide +kernel) (by decide +kernel) (fun _ _ _ h => h) ?_ (by assumption) ?_
      · exact yieldsIf_load_mid (by rfl) 27 _ (by rfl) w2.heap.size 0 (by rfl) cs _ (fun _ h => h.1) Tryd.underlying27 (by rfl) HSZ.out
      simp only [Act.put, List.setIfInBounds_toArray, List.set_cons_zero, List.set_cons_succ]
      refine wpAnyH_take (i := 49) (v := ?_) (List.getElem?_toArray.trans rfl) (by decide +kernel) (by decide +kernel) (by decide +kernel) (fun _ _ _ h => h) (Or.inl ⟨by rfl, ?_⟩) (by assumption) ?_
      case refine_2 => (intro w hSw; (try dsimp only at hSw); clear hSw; go_simp <;> with_reducible rfl)
      simp only [Act.put, List.setIfInBounds_toArray, List.set_cons_zero, List.set_cons_succ]
      refine wpAnyH_take (i := 51) (v := ?_) (List.getElem?_toArray.trans rfl) (by decide +kernel) (by decide +kernel) (by decide +kernel) (fun _ _ _ h => h) (Or.inl ⟨by rfl, ?_⟩) (by assumption) ?_
      case refine_2 => (intro w hSw; (try dsimp only at hSw); clear hSw; go_simp <;> with_reducible rfl)
      simp only [Act.put, List.setIfInBounds_toArray, List.set_cons_zero, List.set_cons_succ]
      refine wpAnyH_take (i := 53) (v := ?_) (List.getElem?_toArray.trans rfl) (by decide +kernel) (by decide +kernel) (by decide +kernel) (fun _ _ _ h => h) (Or.inl ⟨by rfl, ?_⟩) (by assumption) ?_
      case refine_2 => (intro w hSw; (try dsimp only at hSw); clear hSw; go_simp <;> with_reducible rfl)
      simp only [Act.put, List.setIfInBounds_toArray, List.set_cons_zero, List.set_cons_succ]
      refine wpAnyH_take (i := 55) (v := ?_) (List.getElem?_toArray.trans rfl) (by decide +kernel) (by decide +kernel) (by decide +kernel) (fun _ _ _ h => h) (Or.inl ⟨by rfl, ?_⟩) (by assumption) ?_
      case refine_2 => (intro w hSw; (try dsimp only at hSw); clear hSw; go_simp <;> with_reducible rfl)
      simp only [Act.put, List.setIfInBounds_toArray, List.set_cons_zero, List.set_cons_succ]
      refine wpAnyH_ready (rs := [50]) (by decide +kernel) (by simp) ?_
      refine AllReadyH.cons (List.getElem?_toArray.trans rfl) (fun K hK => ?_) AllReadyH.nil
      go_simp
      go_at_call 16; first | ((with_reducible refine (KWO.out _).mono ?_); rintro e wn ⟨rfl, hbn⟩; replace HB0 := Lib.hid (HB0.out.trans (hbn.mono HB0.out.size)); have hP := HPS.out _ HB0.out; (try replace HO1 := Lib.hid (own_belowN HO1.out hbn)); (try replace HVB := Lib.hid ((HVB.out.below hbn).mono hbn.size)); clear hbn)
      refine hK.out _ _ hP (fun hHeld => ?_)
      clear hK K
      refine wpAnyH_ready (rs := [52]) (by decide +kernel) (by simp) ?_
      refine AllReadyH.cons (List.getElem?_toArray.trans rfl) (fun K hK => ?_) AllReadyH.nil
      go_simp
      go_at_call 15; first | ((with_reducible refine (KW1.out _).mono ?_); rintro e wn ⟨rfl, hbn⟩; replace HB0 := Lib.hid (HB0.out.trans (hbn.mono HB0.out.size)); have hP := HPS.out _ HB0.out; (try replace HO1 := Lib.hid (own_belowN HO1.out hbn)); (try replace HVB := Lib.hid ((HVB.out.below hbn).mono hbn.size)); clear hbn) | ((with_reducible refine (KW2.out _).mono ?_); rintro e wn ⟨rfl, hbn⟩; replace HB0 := Lib.hid (HB0.out.trans (hbn.mono HB0.out.size)); have hP := HPS.out _ HB0.out; (try replace HO1 := Lib.hid (own_belowN HO1.out hbn)); (try replace HVB := Lib.hid ((HVB.out.below hbn).mono hbn.size)); clear hbn)
      refine hK.out _ _ hP (fun hHeld => ?_)
      clear hK K
      refine wpAnyH_ready (rs := [54]) (by decide +kernel) (by simp) ?_
      refine AllReadyH.cons (List.getElem?_toArray.trans rfl) (fun K hK => ?_) AllReadyH.nil
      go_simp
      go_at_call 14; first | ((with_reducible refine (KH1.out _).mono ?_); rintro e wn ⟨rfl, hbn⟩; replace HB0 := Lib.hid (HB0.out.trans (hbn.mono HB0.out.size)); have hP := HPS.out _ HB0.out; (try replace HO1 := Lib.hid (own_belowN HO1.out hbn)); (try replace HVB := Lib.hid ((HVB.out.below hbn).mono hbn.size)); clear hbn) | ((with_reducible refine (KH2.out _).mono ?_); rintro e wn ⟨rfl, hbn⟩; replace HB0 := Lib.hid (HB0.out.trans (hbn.mono HB0.out.size)); have hP := HPS.out _ HB0.out; (try replace HO1 := Lib.hid (own_belowN HO1.out hbn)); (try replace HVB := Lib.hid ((HVB.out.below hbn).mono hbn.size)); clear hbn) | ((with_reducible refine (KH3.out _).mono ?_); rintro e wn ⟨rfl, hbn⟩; replace HB0 := Lib.hid (HB0.out.trans (hbn.mono HB0.out.size)); have hP := HPS.out _ HB0.out; (try replace HO1 := Lib.hid (own_belowN HO1.out hbn)); (try replace HVB := Lib.hid ((HVB.out.below hbn).mono hbn.size)); clear hbn) | ((with_reducible refine (KH4.out _).mono ?_); rintro e wn ⟨rfl, hbn⟩; replace HB0 := Lib.hid (HB0.out.trans (hbn.mono HB0.out.size)); have hP := HPS.out _ HB0.out; (try replace HO1 := Lib.hid (own_belowN HO1.out hbn)); (try replace HVB := Lib.hid ((HVB.out.below hbn).mono hbn.size)); clear hbn)
      refine hK.out _ _ hP (fun hHeld => ?_)
      clear hK K
      refine wpAnyH_take (i := 56) (v := ?_) (List.getElem?_toArray.trans rfl) (by decide +kernel) (by decide +kernel) (by decide +kernel) (fun _ _ _ h => h) (Or.inl ⟨by rfl, ?_⟩) (by assumption) ?_
      case refine_2 => (intro w hSw; (try dsimp only at hSw); clear hSw; go_simp <;> with_reducible rfl)
      simp only [Act.put, List.setIfInBounds_toArray, List.set_cons_zero, List.set_cons_succ]
      refine wpAnyH_take (i := 57) (v := ?_) (List.getElem?_toArray.trans rfl) (by decide +kernel) (by decide +kernel) (by decide +kernel) (fun _ _ _ h => h) (Or.inl ⟨by rfl, ?_⟩) (by assumption) ?_
      case refine_2 => (intro w hSw; (try dsimp only at hSw); clear hSw; go_simp <;> with_reducible rfl)
      simp only [Act.put, List.setIfInBounds_toArray, List.set_cons_zero, List.set_cons_succ]
      refine wpAnyH_take (i := 58) (v := ?_) (List.getElem?_toArray.trans rfl) (by decide +kernel) (by decide +kernel) (by decide +kernel) (fun _ _ _ h => h) (Or.inl ⟨by rfl, ?_⟩) (by assumption) ?_
      case refine_2 => (intro w hSw; (try dsimp only at hSw); clear hSw; go_simp <;> with_reducible rfl)
      simp only [Act.put, List.setIfInBounds_toArray, List.set_cons_zero, List.set_cons_succ]
      refine wpAnyH_take (i := 59) (v := ?_) (List.getElem?_toArray.trans rfl) (by decide +kernel) (by decide +kernel) (by decide +kernel) (fun _ _ _ h => h) (Or.inl ⟨by rfl, ?_⟩) (by assumption) ?_
      case refine_2 => (intro w hSw; (try dsimp only at hSw); clear hSw; go_simp <;> with_reducible rfl)
      simp only [Act.put, List.setIfInBounds_toArray, List.set_cons_zero, List.set_cons_succ]
      refine wpAnyH_take (i := 60) (v := ?_) (List.getElem?_toArray.trans rfl) (by decide +kernel) (by decide +kernel) (by decide +kernel) (fun _ _ _ h => h) (Or.inl ⟨by rfl, ?_⟩) (by assumption) ?_
      case refine_2 => (intro w hSw; (try dsimp only at hSw); clear hSw; go_simp <;> with_reducible rfl)
      simp only [Act.put, List.setIfInBounds_toArray, List.set_cons_zero, List.set_cons_succ]
      refine wpAnyH_take (i := 61) (v := .agg cs.toArray) (List.getElem?_toArray.trans rfl) (by decide +kernel) (by decide +kernel) (by decide +kernel) (fun _ _ _ h => h) ?_ (by assumption) ?_
      · exact yieldsIf_load_mid (by rfl) 27 _ (by rfl) w2.heap.size 0 (by rfl) cs _ (fun _ h => h.1) Tryd.underlying27 (by rfl) HSZ.out
      simp only [Act.put, List.setIfInBounds_toArray, List.set_cons_zero, List.set_cons_succ]
      refine wpAnyH_take (i := 62) (v := ?_) (List.getElem?_toArray.trans rfl) (by decide +kernel) (by decide +kernel) (by decide +kernel) (fun _ _ _ h => h) (Or.inl ⟨by rfl, ?_⟩) (by assumption) ?_
      case refine_2 => (intro w hSw; (try dsimp only at hSw); clear hSw; go_simp <;> with_reducible rfl)
      simp only [Act.put, List.setIfInBounds_toArray, List.set_cons_zero, List.set_cons_succ]
      refine wpAnyH_take (i := 64) (v := .agg cs.toArray) (List.getElem?_toArray.trans rfl) (by decide +kernel) (by decide +kernel) (by decide +kernel) (fun _ _ _ h => h) ?_ (by assumption) ?_
      · exact yieldsIf_load_mid (by rfl) 27 _ (by rfl) w2.heap.size 0 (by rfl) cs _ (fun _ h => h.1) Tryd.underlying27 (by rfl) HSZ.out
      simp only [Act.put, List.setIfInBounds_toArray, List.set_cons_zero, List.set_cons_succ]
      refine wpAnyH_ready (rs := [63]) (by decide +kernel) (by simp) ?_
      refine AllReadyH.cons (List.getElem?_toArray.trans rfl) (fun K hK => ?_) AllReadyH.nil
      go_simp
      go_at_call 16; first | ((with_reducible refine (KWO.out _).mono ?_); rintro e wn ⟨rfl, hbn⟩; replace HB0 := Lib.hid (HB0.out.trans (hbn.mono HB0.out.size)); have hP := HPS.out _ HB0.out; (try replace HO1 := Lib.hid (own_belowN HO1.out hbn)); (try replace HVB := Lib.hid ((HVB.out.below hbn).mono hbn.size)); clear hbn)
      refine hK.out _ _ hP (fun hHeld => ?_)
      clear hK K
      refine wpAnyH_take (i := 65) (v := ?_) (List.getElem?_toArray.trans rfl) (by decide +kernel) (by decide +kernel) (by decide +kernel) (fun _ _ _ h => h) (Or.inl ⟨by rfl, ?_⟩) (by assumption) ?_
      case refine_2 => (intro w hSw; (try dsimp only at hSw); clear hSw; go_simp <;> with_reducible rfl)
      simp only [Act.put, List.setIfInBounds_toArray, List.set_cons_zero, List.set_cons_succ]
      refine wpAnyH_take (i := 66) (v := ?_) (List.getElem?_toArray.trans rfl) (by decide +kernel) (by decide +kernel) (by decide +kernel) (fun _ _ _ h => h) (Or.inl ⟨by rfl, ?_⟩) (by assumption) ?_
      case refine_2 => (intro w hSw; (try dsimp only at hSw); clear hSw; go_simp <;> with_reducible rfl)
      simp only [Act.put, List.setIfInBounds_toArray, List.set_cons_zero, List.set_cons_succ]
      refine wpAnyH_take (i := 67) (v := ?_) (List.getElem?_toArray.trans rfl) (by decide +kernel) (by decide +kernel) (by decide +kernel) (fun _ _ _ h => h) (Or.inl ⟨by rfl, ?_⟩) (by assumption) ?_
      case refine_2 => (intro w hSw; (try dsimp only at hSw); clear hSw; go_simp <;> with_reducible rfl)
      simp only [Act.put, List.setIfInBounds_toArray, List.set_cons_zero, List.set_cons_succ]
      refine wpAnyH_ready (rs := [68]) (by decide +kernel) (by simp) ?_
      refine AllReadyH.cons (List.getElem?_toArray.trans rfl) (fun K hK => ?_) AllReadyH.nil
      have cR := (HRES.out _ HB0.out).cell; have fR := (HRES.out _ HB0.out).frozen; go_simp; have hP := HPS2.out _ HB0.out
      refine hK.out _ _ hP (fun hHeld => ?_)
      clear hK K
      refine wpAnyH_done (by decide +kernel) ?_ _
      refine NoPanic.normal ?_
      go_wp2
      refine ⟨by simp, .inl ⟨_, _, rfl, run_takeDeferred (HFIN.out _ HB0.out).2, ?_⟩⟩
      exact ⟨_, res_tells rfl (HFIN.out _ HB0.out).1.1, rfl, (HFIN.out _ HB0.out).1.2⟩

  have hbn7 : w4.heap.size + 1 < w7.heap.size := HBN7.out.lt
  refine (wpIn_wide (n := 30)).1 ?_
  refine wpIn_its (n := 30) (gf := gf) (lb := lb) rfl HEG.out HITS.out (Below.refl _ _) (fun j h => (HP.out j h).2) (fun _ => rfl)
    (fun m X => TSta w w2.heap.size w4.heap.size stop cs As ks S X ∧ Boxed X (w4.heap.size + 1) 3 (.int .i64 (m : Int)))
    (fun cc m X => cc = .exit 0 ∧ (TSta w w2.heap.size w4.heap.size stop cs As ks S X ∧ Boxed X (w4.heap.size + 1) 3 (.int .i64 (m : Int))) ∧ (m : Int) = stop)
    (OwnFrom.and (TSta.own (by omega)) (Own.from (boxed_own _ _ (fun (m : Nat) => .int .i64 (m : Int))) _))
    (fun cc m X Y row hs hg hr => ⟨hs.1, OwnFrom.and (TSta.own (by omega)) (Own.from (boxed_own _ _ (fun (m : Nat) => .int .i64 (m : Int))) _) m X Y row hs.2.1 hg hr, hs.2.2⟩)
    ⟨HT7.out, HBN7.out⟩
    (fun m a' _ => a' = { tmps := #[.slice A n c, .int .i64 i, .int .i64 stop, undef, undef, .pointer (some ⟨w.heap.size, 0, none⟩), .pointer (some ⟨w.heap.size + 1, 0, none⟩), .pointer (some ⟨w2.heap.size, 0, none⟩), .pointer (some ⟨w4.heap.size, 0, none⟩), .pointer (some ⟨w4.heap.size + 1, 0, none⟩), .int .i64 (nthS S m), undef, undef, .bool true, .bool false, .slice A n c, .int .i64 (n : Int), .bool false, .slice A n c, .agg cs.toArray, .slice A n c, .slice As S.length ks, .agg cs.toArray, .func (.func gf) #[] lb, .int .i64 (nthS S m), undef, undef, undef, undef, undef, undef, undef, undef, undef, undef, undef, undef, undef, undef, undef, undef, undef, undef, undef, undef, undef, undef, undef, undef, undef, undef, undef, undef, undef, undef, undef, undef, undef, undef, undef, undef, undef, undef, undef, undef, undef, undef, undef, undef, undef, undef, undef, undef, undef, undef, undef, undef, undef, undef, undef, undef, undef, undef, undef, undef, undef, undef, undef, undef, undef, undef, undef, undef, undef, undef, undef, undef, undef, undef, undef, undef, undef, undef, undef, undef, undef, undef, undef, undef, undef, undef, undef, undef, undef, undef, undef, undef, undef, undef, undef, undef, undef, undef, undef, undef, undef, undef, undef, undef, undef, undef], defers := [] })
    (fun m a' _ X Y row hs hg hr => hs)
    ?assign ?body ?done ?stop
  case assign =>
    rintro l2 m X K hm hX ⟨hT, hN⟩ hK
    gi_wp2
    exact hK _ _ (Stay.refl _ _) ⟨hT, hN⟩ rfl
  case body =>
    rintro l2 m a' X hm hX ⟨hT, hN⟩ rfl
    have cN := hN.cell
    have cS := hT.stop.cell
    have cW := hT.want.cell
    have fN := hN.frozen
    have hnp : ¬ (p (w4.heap.size + 1) ∨ w7.heap.size ≤ w4.heap.size + 1) := by
      rintro (h | h)
      · rcases (HP.out _ h).1 with h9 | h9
        · have := HT7.out.lt
          omega
        · simp at h9
          omega
      · omega
    by_cases hms : (m : Int) = stop
    · have e1 : ((m : Int) == stop) = true := by simp [hms]
      have HMS := Lib.hid hms
      clear hms
      gi_wp2
      exact ⟨Stay.refl _ _, rfl, ⟨hT, hN⟩, HMS.out⟩
    · have e1 : ((m : Int) == stop) = false := by simp [hms]
      obtain ⟨b, off, rfl, hb, hc⟩ := hT.vals.2 (by omega)
      have hel := hc m (by rw [nums_length]; exact hm)
      rw [nums_get .i64 S m (by rw [nums_length]; exact hm) hm] at hel
      rw [← nthS_eq hm] at hel
      have e2 : decide ((S.length : Int) ≤ (m : Int)) = false := decide_eq_false (by omega)
      have e3 : (nthS S m != nthS S m) = false := by simp
      have hml : (m : Int) < (S.length : Int) := by omega
      have hw : IntKind.i64.wrap ((m : Int) + 1) = (m : Int) + 1 := IntWalk.i64_in _ (by omega)
      have HTT := Lib.hid hT
      have HNN := Lib.hid hN
      generalize nthS S m = sv at *
      clear hT hN hc hms
      gi_wp2
      exact ⟨Stay.setCell _ _ hnp, HTT.out.setCell _ _ (Nat.lt_succ_self _), by rw [show ((m + 1 : Nat) : Int) = (m : Int) + 1 from rfl]; exact HNN.out.set _⟩
  case done =>
    rintro D X hD ⟨hT, hN⟩ hK
    exact key D X S.length hD hT hN (fun h => absurd rfl h) hK
  case stop =>
    rintro D cc m X hD hm ⟨rfl, ⟨hT, hN⟩, hms⟩ hK
    gi_wp2
    exact key D X m hD hT hN (fun _ => hms) hK
set_option maxHeartbeats 16000000 in
theorem tells_yes (hn : ¬ 60 < n) (hA : Vs w w.heap.size A n (nums .i64 l))
    (ka : ∀ W, Below w.heap.size w W → Calls Tryd.prog 6 #[] W fun e w' => e = .returned (.bool true) ∧ Below W.heap.size W w')
    (hz : ∀ W, (zeroValue 27).run Tryd.prog W = .ok (.agg z0.toArray) W)
    (hsz : (Tryd.prog.info? 27).map (·.size) = some cs.length) (hsz0 : z0.length = cs.length) (hpos : 0 < cs.length) (o1 : ∀ v ∈ cs, v.oneCell' = true)
    (kf : ∀ W, Below w.heap.size w W → Calls Tryd.prog 7 #[.slice A n c] W fun e w' => e = .returned (.agg cs.toArray) ∧ Below W.heap.size W w')
    (gf : Nat) (eg : ∀ args w, (callFunc gf args).run Tryd.prog w = .ok (.enter gf args) w)
    (kall : ∀ W, Below w.heap.size w W → Calls Tryd.prog 9 #[.agg cs.toArray] W fun e w' => ∃ lb p, e = .returned (.func (.func gf) #[] lb) ∧ Its Tryd.prog gf lb (fun m => #[.int .i64 (nthS (Bm.srt l 4097) m)]) (Bm.srt l 4097).length p w' ∧ (∀ i, p i → (i < w.heap.size ∨ W.heap.size ≤ i) ∧ i < w'.heap.size) ∧ Below W.heap.size W w')
    (klist : ∀ W, Below w.heap.size w W → Calls Tryd.prog 12 #[.agg cs.toArray] W (NumsTo (Bm.srt l 4097) W))
    (klen : ∀ W, Calls Tryd.prog 13 #[.agg cs.toArray] W fun e w' => e = .returned (.int .i64 ((Bm.srt l 4097).length : Int)) ∧ Below W.heap.size W w')
    (kh1 : ∀ W, Calls Tryd.prog 14 #[.agg cs.toArray, .int .i64 i] W fun e w' => e = .returned (.bool inn) ∧ Below W.heap.size W w')
    (kw1 : ∀ W, Calls Tryd.prog 15 #[.agg cs.toArray, .int .i64 i] W fun e w' => e = .returned (.agg ci.toArray) ∧ Below W.heap.size W w')
    (kh2 : ∀ W, Calls Tryd.prog 14 #[.agg ci.toArray, .int .i64 i] W fun e w' => e = .returned (.bool may) ∧ Below W.heap.size W w')
    (kwo : ∀ W, Calls Tryd.prog 16 #[.agg cs.toArray, .int .i64 i] W fun e w' => e = .returned (.agg cd.toArray) ∧ Below W.heap.size W w')
    (kh3 : ∀ W, Calls Tryd.prog 14 #[.agg cd.toArray, .int .i64 i] W fun e w' => e = .returned (.bool false) ∧ Below W.heap.size W w')
    (kof2 : ∀ W A' n' c', Vs W W.heap.size A' n' (nums .i64 (l ++ [i])) → Calls Tryd.prog 7 #[.slice A' n' c'] W fun e w' => e = .returned (.agg ci.toArray) ∧ Below W.heap.size W w')
    (kw2 : ∀ W, Calls Tryd.prog 15 #[.agg cd.toArray, .int .i64 i] W fun e w' => e = .returned (.agg ce.toArray) ∧ Below W.heap.size W w')
    (kh4 : ∀ W, Calls Tryd.prog 14 #[.agg ce.toArray, .int .i64 i] W fun e w' => e = .returned (.bool may) ∧ Below W.heap.size W w')
    (he1 : ∀ W, (binOp BinOp.eql 27 (.agg ci.toArray) (.agg ci.toArray)).run Tryd.prog W = .ok (.bool true) W) (he2 : inn = false → ∀ W, (binOp BinOp.eql 27 (.agg cd.toArray) (.agg cs.toArray)).run Tryd.prog W = .ok (.bool true) W)
    (m1 m2 inl : Bool) (hm1 : decide (0 ≤ i) = m1) (hm2 : decide (i ≤ 4096) = m2) (hinl : decide (i ∈ l) = inl) (hmay : may = (m1 && m2)) (hinn : inn = (may && inl)) (hiv : inn = true) :
    Calls Tryd.prog 3 #[.slice A n c, .int .i64 i, .int .i64 stop] w fun e w' => e = .returned (.bool true) ∧ Below w.heap.size w w' := by
  subst hiv
  have d1 : decide ((60 : Int) < (n : Int)) = false := decide_eq_false (by omega)
  have HKA := Lib.hid ka
  have HKF := Lib.hid kf
  have HKALL := Lib.hid kall
  have HA := Lib.hid hA
  have HN := Lib.hid hn
  have HS0 := Lib.hid hsz0
  have HLC := Lib.hid hpos
  have HIA : Hid ((Tryd.prog.info? 27).map (·.size) = some cs.toArray.size) := Lib.hid (by rw [hsz]; simp)
  have HSZ := Lib.hid hsz
  have HO1 := Lib.hid (all_oneCell_toArray o1)
  have HEG := Lib.hid eg
  have KLIST := Lib.hid klist
  have KLEN := Lib.hid klen
  have KH1 := Lib.hid kh1
  have KW1 := Lib.hid kw1
  have KH2 := Lib.hid kh2
  have KWO := Lib.hid kwo
  have KH3 := Lib.hid kh3
  have KOF2 := Lib.hid kof2
  have KW2 := Lib.hid kw2
  have KH4 := Lib.hid kh4
  have HE1 := Lib.hid he1
  have HE2 := Lib.hid he2
  have HM1 := Lib.hid hm1
  have HM2 := Lib.hid hm2
  have HINL := Lib.hid hinl
  have HMAY := Lib.hid hmay
  have HINN := Lib.hid hinn
  clear klist klen kh1 kw1 kh2 kwo kh3 kof2 kw2 kh4 he1 he2 hm1 hm2 hinl hmay hinn
  clear ka hn kf kall hA hsz hsz0 hpos o1 eg
  generalize hS : Bm.srt l 4097 = S at *
  have HSS := Lib.hid hS
  clear hS
  have hb0 : Below w.heap.size w ((w.alloc (.cells #[.int .i64 stop] 3)).alloc (.cells #[.bool false] 4)) := ((Below.refl _ w).alloc (Nat.le_refl _) _).alloc (by simp) _
  have HB0 := Lib.hid hb0
  have hs0 : ((w.alloc (.cells #[.int .i64 stop] 3)).alloc (.cells #[.bool false] 4)).heap.size = w.heap.size + 2 := by simp
  have HQS := Lib.hid ((Boxed.new w 3 (.int .i64 stop)).alloc (.cells #[.bool false] 4))
  have hqr := Boxed.new (w.alloc (.cells #[.int .i64 stop] 3)) 4 (.bool false)
  rw [World.size_alloc] at hqr
  have HQR := Lib.hid hqr
  have HZ0 := Lib.hid hs0
  clear hb0 hs0 hqr
  have HSORT : Hid (∀ W, Below w.heap.size w W → Calls Tryd.prog 8 #[.slice A n c] W (NumsTo S W)) := Lib.hid fun W h => by
    have h9 := sorted_any A n c w.heap.size l W (HA.out.below h) h.size (by have := HN.out; omega)
    rw [HSS.out] at h9
    exact h9
  refine (callsIn_wide (n := 30)).1 ?_
  refine callsIn_of_wp_marks Tryd.func3 rfl trivial ?_ rfl
  simp only [Tryd.ntmps3, List.size_toArray, List.length_cons, List.length_nil, Nat.reduceAdd, Nat.reduceSub, Array.replicate_succ, Array.replicate_zero, List.push_toArray, List.append_toArray, List.nil_append, List.cons_append]
  refine (wpIn_wide (n := 30)).2 ?_
  go_wp2_with (first
    | (go_at_call 6; (with_reducible refine (HKA.out _ HB0.out).mono ?_); rintro e w1 ⟨rfl, hb1⟩; have HB1 := Lib.hid (HB0.out.trans (hb1.mono (by rw [HZ0.out]; omega))); have HQS1 := Lib.hid (show Boxed w1 w.heap.size 3 (.int .i64 stop) from (hb1.block _ (by rw [HZ0.out]; omega)).trans HQS.out); have HQR1 := Lib.hid (show Boxed w1 (w.heap.size + 1) 4 (.bool false) from (hb1.block _ (by rw [HZ0.out]; omega)).trans HQR.out); have HZ1 : Hid (w.heap.size + 2 ≤ w1.heap.size) := Lib.hid (by have h9 := hb1.size; rwa [HZ0.out] at h9); clear hb1)
    | (go_at_call 7; (with_reducible refine (HKF.out w1 HB1.out).mono ?_); rintro e w2 ⟨rfl, hb2⟩; have HC2 := Lib.hid hb2; have HRS := Lib.hid (range_alloc_set w2 z0 cs 27 HS0.out); clear hb2)
    | (refine wpList_store_mid (by rfl) 27 (.tmp 7) (.tmp 19) (by rfl) w2.heap.size 0 cs.toArray (by rfl) (by rfl) HRS.out.1 HIA.out HO1.out ?_; obtain ⟨w3, hw3⟩ : ∃ w3, w3 = (w2.alloc (.cells z0.toArray 27)).setCells w2.heap.size 0 cs := ⟨_, rfl⟩; have HR3 := Lib.hid HRS.out.2; rw [← hw3] at HR3; rw [← hw3]; have HB3 := Lib.hid ((HB1.out.trans (HC2.out.mono HB1.out.size)).trans (HR3.out.2.mono (HB1.out.trans (HC2.out.mono HB1.out.size)).size)); clear hw3 HRS)
    | (go_at_call 8; (with_reducible refine (HSORT.out w3 HB3.out).mono ?_); rintro e w4 ⟨As, ks, rfl, hvs, hks, hb4⟩; have HT := Lib.hid (tells_start (ks := ks) HQS1.out HQR1.out HB1.out HC2.out HR3.out.1 HR3.out.2 HZ1.out hvs hb4 HLC.out); have HBN := Lib.hid (box_next w4 (.cells #[.slice As S.length ks] 22) 3 (.int .i64 0)); clear hvs hks hb4)
    | (refine wpList_load_mid (by rfl) 27 (.tmp 7) (by rfl) w2.heap.size 0 (by rfl) cs _ HT.out.map Tryd.underlying27 (by rfl) HSZ.out ?_)
    | (go_at_call 9; (with_reducible refine (HKALL.out _ HT.out.below).mono ?_); rintro e w7 ⟨lb, p, rfl, hits, hp, hb7⟩; have HITS := Lib.hid hits; have HP := Lib.hid hp; have HT7 := Lib.hid (HT.out.on hb7); have HBN7 := Lib.hid (show Boxed w7 _ _ _ from (hb7.block _ HBN.out.lt).trans HBN.out); have HB7 := Lib.hid hb7; clear hits hp hb7))
  rename_i Kr hKr
  have hsz : S.length ≤ 100 := by
    have h1 := Bm.srt_length l 4097
    rw [HSS.out] at h1
    have h2 := HA.out.1
    rw [nums_length] at h2
    have := HN.out
    omega
  have key : ∀ (D : Nat) (X : World) (cv : Nat), w7.heap.size ≤ D → TSta w w2.heap.size w4.heap.size stop cs As ks S X → Boxed X (w4.heap.size + 1) 3 (.int .i64 cv) → (cv ≠ S.length → (cv : Int) = stop) → X.heap[D]? = some (.deferred (some [])) →
      Kr { tmps := #[.slice A n c, .int .i64 i, .int .i64 stop, undef, undef, .pointer (some ⟨w.heap.size, 0, none⟩), .pointer (some ⟨w.heap.size + 1, 0, none⟩), .pointer (some ⟨w2.heap.size, 0, none⟩), .pointer (some ⟨w4.heap.size, 0, none⟩), .pointer (some ⟨w4.heap.size + 1, 0, none⟩), undef, undef, undef, .bool true, .bool false, .slice A n c, .int .i64 (n : Int), .bool false, .slice A n c, .agg cs.toArray, .slice A n c, .slice As S.length ks, .agg cs.toArray, .func (.func gf) #[] lb, undef, undef, undef, undef, undef, undef, undef, undef, undef, undef, undef, undef, undef, undef, undef, undef, undef, undef, undef, undef, undef, undef, undef, undef, undef, undef, undef, undef, undef, undef, undef, undef, undef, undef, undef, undef, undef, undef, undef, undef, undef, undef, undef, undef, undef, undef, undef, undef, undef, undef, undef, undef, undef, undef, undef, undef, undef, undef, undef, undef, undef, undef, undef, undef, undef, undef, undef, undef, undef, undef, undef, undef, undef, undef, undef, undef, undef, undef, undef, undef, undef, undef, undef, undef, undef, undef, undef, undef, undef, undef, undef, undef, undef, undef, undef, undef, undef, undef, undef, undef, undef, undef, undef, undef, undef, undef, undef], defers := [{ target := .collected D, args := #[] }] } X := by
    intro D X cv hD hS hC hcv hDD
    refine hKr _ _ ?_
    clear hKr
    have cC := hC.cell
    have cS := hS.stop.cell
    have cW := hS.want.cell
    have HCV := Lib.hid hcv
    simp only [List.append_eq, List.cons_append, List.nil_append]
    go_upto_region 14 with fail
    go_cut [50] from 42 to 50 (fun s50 wx => s50 = .bool false ∧ wx = X)
    case first =>
      by_cases hq : cv = S.length
      · have e1 : ((cv : Int) != (S.length : Int)) = false := by simp [hq]
        clear hcv hq
        go_wp2
        go_meet
        exact ⟨rfl, rfl⟩
      · have e1 : ((cv : Int) != (S.length : Int)) = true := by simp; omega
        have e2 : ((cv : Int) != stop) = false := by simp [hcv hq]
        clear hcv hq
        go_wp2
        go_meet
        exact ⟨rfl, rfl⟩
    obtain ⟨rfl, rfl⟩ := hcut
    clear hcv
    go_upto_region 16 with fail
    go_cut [11] from 51 to 56 (fun s11 wx => s11 = .bool may ∧ wx = wc)
    case first =>
      have hm1 := HM1.out
      have hm2 := HM2.out
      have hmay := HMAY.out
      cases m1
      · rw [Bool.false_and] at hmay
        subst hmay
        go_wp2
        go_meet
        exact ⟨rfl, rfl⟩
      · rw [Bool.true_and] at hmay
        subst hmay
        go_wp2
        go_meet
        exact ⟨rfl, rfl⟩
    obtain ⟨rfl, rfl⟩ := hcut
    go_upto_region 17 with fail
    go_cut [12] from 57 to 62 (fun s12 wx => s12 = .bool true ∧ wx = wc)
    case first =>
      have hinn := HINN.out
      have cin := in01_any A n c i w.heap.size l wc (HA.out.below hS.below) (by have := HN.out; omega)
      rw [HINL.out] at cin
      cases may
      · rw [Bool.false_and] at hinn
        first
          | exact absurd hinn (by decide)
          | (go_wp2; go_meet; exact ⟨rfl, rfl⟩)
      · rw [Bool.true_and] at hinn
        subst hinn
        go_wp2_with (go_at_call 10; (with_reducible refine cin.mono ?_); rintro e wi ⟨rfl, rfl⟩)
        go_meet
        exact ⟨rfl, rfl⟩
    obtain ⟨rfl, rfl⟩ := hcut
    have HT := Lib.hid (fun W (h : Below wc.drew.heap.size wc.drew W) => hS.on (((Below.refl wc.heap.size wc).drew).trans h))
    have HPS : Hid (∀ W, Below wc.drew.heap.size wc.drew W → W.rangeAt w2.heap.size 0 cs ∧ W.cell? ⟨w4.heap.size, 0, none⟩ = some (.slice As S.length ks)) := Lib.hid fun W h => ⟨(HT.out W h).map, (HT.out W h).want.cell⟩
    have HVW : Hid (∀ W, Below wc.drew.heap.size wc.drew W → Vs W W.heap.size As S.length (nums .i64 S)) := Lib.hid fun W h => (HT.out W h).vals.mono (Nat.le_of_lt (HT.out W h).want.lt)
    have HAW : Hid (∀ W, Below wc.drew.heap.size wc.drew W → Vs W w.heap.size A n (nums .i64 l)) := Lib.hid fun W h => HA.out.below (HT.out W h).below
    have HRES : Hid (∀ W, Below wc.drew.heap.size wc.drew W → Boxed W (w.heap.size + 1) 4 (.bool false)) := Lib.hid fun W h => (HT.out W h).res
    have HPS2 : Hid (∀ W, Below wc.drew.heap.size wc.drew W → (W.setCell ⟨w.heap.size + 1, 0, none⟩ (.bool true)).rangeAt w2.heap.size 0 cs ∧ (W.setCell ⟨w.heap.size + 1, 0, none⟩ (.bool true)).cell? ⟨w4.heap.size, 0, none⟩ = some (.slice As S.length ks)) := Lib.hid fun W h => by
      have ht := HT.out W h
      obtain ⟨l1, l2⟩ := ht.lt
      refine ⟨fun j v hv => (World.cell?_of_block (Below.heap_setCell W ⟨w.heap.size + 1, 0, none⟩ _ w2.heap.size (by dsimp only; omega))).trans (ht.map j v hv), (World.cell?_of_block (Below.heap_setCell W ⟨w.heap.size + 1, 0, none⟩ _ w4.heap.size (by dsimp only; omega))).trans ht.want.cell⟩
    have HFIN : Hid (∀ W, Below wc.drew.heap.size wc.drew W → ((((W.setCell ⟨w.heap.size + 1, 0, none⟩ (.bool true)).putObj D (.deferred none)).cell? ⟨w.heap.size + 1, 0, none⟩ = some (.bool true)) ∧ Below w.heap.size w ((W.setCell ⟨w.heap.size + 1, 0, none⟩ (.bool true)).putObj D (.deferred none))) ∧ (W.setCell ⟨w.heap.size + 1, 0, none⟩ (.bool true)).heap[D]? = some (.deferred (some []))) := Lib.hid fun W h => by
      have ht := HT.out W h
      have hDl : D < wc.heap.size := (Array.getElem?_eq_some_iff.1 hDD).1
      have hw7 := HBN7.out.lt
      obtain ⟨l1, l2⟩ := ht.lt
      have hd : W.heap[D]? = some (.deferred (some [])) := (h.block D hDl).trans hDD
      have hb1 : Below w.heap.size w (W.setCell ⟨w.heap.size + 1, 0, none⟩ (.bool true)) := ht.below.setCell (p := ⟨w.heap.size + 1, 0, none⟩) (by dsimp only; omega) _
      have hc1 : (W.setCell ⟨w.heap.size + 1, 0, none⟩ (.bool true)).cell? ⟨w.heap.size + 1, 0, none⟩ = some (.bool true) := (Boxed.set (.bool true) ht.res).cell
      refine ⟨⟨?_, hb1.grown (grownBy_putObj' _ D _) hb1.size (fun q e => by injection e with e; omega)⟩, (Below.heap_setCell _ _ _ D (by dsimp only; omega)).trans hd⟩
      unfold World.cell? at hc1 ⊢
      rw [World.putObj_heap_other (by dsimp only; omega)]
      exact hc1
    have HB0 := Lib.hid (Below.refl wc.drew.heap.size wc.drew)
    have hP := HPS.out _ HB0.out
    obtain ⟨i0, hi0, hz0, hz1, hz2⟩ := info_parts int_infoS
    have HI0 := Lib.hid hi0
    have HZI := Lib.hid hz0
    have HSI := Lib.hid hz1
    have HBI := Lib.hid hz2
    have he1 := HE1.out
    clear hi0 hz0 hz1 hz2 hS hC hDD cC cS cW hz hD
    go_upto_region 18 with fail
    refine wp_region_noPanic ?_
    try simp only [List.append_eq, List.cons_append, List.nil_append]
    refine wp_region_held_drew (S := (fun W => W.rangeAt w2.heap.size 0 cs ∧ W.cell? ⟨w4.heap.size, 0, none⟩ = some (.slice As S.length ks))) (by kernel_rfl) hP (fun hHeld => ?_)
    refine wpAnyH_take (i := 0) (v := .agg cs.toArray) (List.getElem?_toArray.trans rfl) (by decide +kernel) (by decide +kernel) (by decide +kernel) (fun _ _ _ h => h) ?_ (by assumption) ?_
    · exact yieldsIf_load_mid (by rfl) 27 _ (by rfl) w2.heap.size 0 (by rfl) cs _ (fun _ h => h.1) Tryd.underlying27 (by rfl) HSZ.out
    simp only [Act.put, List.setIfInBounds_toArray, List.set_cons_zero, List.set_cons_succ]
    refine wpAnyH_take (i := 2) (v := ?_) (List.getElem?_toArray.trans rfl) (by decide +kernel) (by decide +kernel) (by decide +kernel) (fun _ _ _ h => h) (Or.inl ⟨by rfl, ?_⟩) (by assumption) ?_
    case refine_2 => (intro w hSw; (try dsimp only at hSw); go_simp <;> with_reducible rfl)
    simp only [Act.put, List.setIfInBounds_toArray, List.set_cons_zero, List.set_cons_succ]
    refine wpAnyH_ready (rs := [1]) (by decide +kernel) (by simp) ?_
    refine AllReadyH.cons (List.getElem?_toArray.trans rfl) (fun K hK => ?_) AllReadyH.nil
    go_simp
    go_at_call 12; (with_reducible refine (KLIST.out _ (HT.out _ HB0.out).below).mono ?_); rintro e wn ⟨Al, kl, rfl, hvl, hkl, hbn⟩; have HVL := Lib.hid hvl; clear hvl hkl; replace HB0 := Lib.hid (HB0.out.trans (hbn.mono HB0.out.size)); have hP := HPS.out _ HB0.out; (try replace HO1 := Lib.hid (own_belowN HO1.out hbn)); (try replace HVB := Lib.hid ((HVB.out.below hbn).mono hbn.size)); clear hbn
    refine hK.out _ _ hP (fun hHeld => ?_)
    clear hK K
    refine wpAnyH_ready (rs := [3]) (by decide +kernel) (by simp) ?_
    refine AllReadyH.cons (List.getElem?_toArray.trans rfl) (fun K hK => ?_) AllReadyH.nil
    go_simp
    go_at_call 11; (with_reducible refine (ints_same Al As S.length kl ks wn.heap.size S wn HVL.out ((HVW.out _ HB0.out)) (by omega)).mono ?_); rintro e wm ⟨rfl, mm, rfl⟩; have hbn : Below wn.heap.size wn (wn.drewN mm) := below_drewN (Below.refl _ _) mm; replace HB0 := Lib.hid (HB0.out.trans (hbn.mono HB0.out.size)); have hP := HPS.out _ HB0.out; (try replace HO1 := Lib.hid (own_belowN HO1.out hbn)); (try replace HVB := Lib.hid ((HVB.out.below hbn).mono hbn.size)); clear hbn
    refine hK.out _ _ hP (fun hHeld => ?_)
    clear hK K
    refine wpAnyH_take (i := 4) (v := ?_) (List.getElem?_toArray.trans rfl) (by decide +kernel) (by decide +kernel) (by decide +kernel) (fun _ _ _ h => h) (Or.inl ⟨by rfl, ?_⟩) (by assumption) ?_
    case refine_2 => (intro w hSw; (try dsimp only at hSw); clear hSw; go_simp <;> with_reducible rfl)
    simp only [Act.put, List.setIfInBounds_toArray, List.set_cons_zero, List.set_cons_succ]
    refine wpAnyH_take (i := 5) (v := .agg cs.toArray) (List.getElem?_toArray.trans rfl) (by decide +kernel) (by decide +kernel) (by decide +kernel) (fun _ _ _ h => h) ?_ (by assumption) ?_
    · exact yieldsIf_load_mid (by rfl) 27 _ (by rfl) w2.heap.size 0 (by rfl) cs _ (fun _ h => h.1) Tryd.underlying27 (by rfl) HSZ.out
    simp only [Act.put, List.setIfInBounds_toArray, List.set_cons_zero, List.set_cons_succ]
    refine wpAnyH_take (i := 7) (v := ?_) (List.getElem?_toArray.trans rfl) (by decide +kernel) (by decide +kernel) (by decide +kernel) (fun _ _ _ h => h) (Or.inl ⟨by rfl, ?_⟩) (by assumption) ?_
    case refine_2 => (intro w hSw; (try dsimp only at hSw); go_simp <;> with_reducible rfl)
    simp only [Act.put, List.setIfInBounds_toArray, List.set_cons_zero, List.set_cons_succ]
    refine wpAnyH_take (i := 8) (v := ?_) (List.getElem?_toArray.trans rfl) (by decide +kernel) (by decide +kernel) (by decide +kernel) (fun _ _ _ h => h) (Or.inl ⟨by rfl, ?_⟩) (by assumption) ?_
    case refine_2 => (intro w hSw; (try dsimp only at hSw); clear hSw; go_simp <;> with_reducible rfl)
    simp only [Act.put, List.setIfInBounds_toArray, List.set_cons_zero, List.set_cons_succ]
    refine wpAnyH_ready (rs := [6]) (by decide +kernel) (by simp) ?_
    refine AllReadyH.cons (List.getElem?_toArray.trans rfl) (fun K hK => ?_) AllReadyH.nil
    go_simp
    go_at_call 13; first | ((with_reducible refine (KLEN.out _).mono ?_); rintro e wn ⟨rfl, hbn⟩; replace HB0 := Lib.hid (HB0.out.trans (hbn.mono HB0.out.size)); have hP := HPS.out _ HB0.out; (try replace HO1 := Lib.hid (own_belowN HO1.out hbn)); (try replace HVB := Lib.hid ((HVB.out.below hbn).mono hbn.size)); clear hbn)
    refine hK.out _ _ hP (fun hHeld => ?_)
    clear hK K
    refine wpAnyH_take (i := 9) (v := ?_) (List.getElem?_toArray.trans rfl) (by decide +kernel) (by decide +kernel) (by decide +kernel) (fun _ _ _ h => h) (Or.inl ⟨by rfl, ?_⟩) (by assumption) ?_
    case refine_2 => (intro w hSw; (try dsimp only at hSw); clear hSw; go_simp <;> with_reducible rfl)
    simp only [Act.put, List.setIfInBounds_toArray, List.set_cons_zero, List.set_cons_succ]
    refine wpAnyH_take (i := 10) (v := ?_) (List.getElem?_toArray.trans rfl) (by decide +kernel) (by decide +kernel) (by decide +kernel) (fun _ _ _ h => h) (Or.inl ⟨by rfl, ?_⟩) (by assumption) ?_
    case refine_2 => (intro w hSw; (try dsimp only at hSw); clear hSw; go_simp <;> with_reducible rfl)
    simp only [Act.put, List.setIfInBounds_toArray, List.set_cons_zero, List.set_cons_succ]
    refine wpAnyH_take (i := 11) (v := ?_) (List.getElem?_toArray.trans rfl) (by decide +kernel) (by decide +kernel) (by decide +kernel) (fun _ _ _ h => h) (Or.inl ⟨by rfl, ?_⟩) (by assumption) ?_
    case refine_2 => (intro w hSw; (try dsimp only at hSw); clear hSw; go_simp <;> with_reducible rfl)
    simp only [Act.put, List.setIfInBounds_toArray, List.set_cons_zero, List.set_cons_succ]
    refine wpAnyH_take (i := 12) (v := .agg cs.toArray) (List.getElem?_toArray.trans rfl) (by decide +kernel) (by decide +kernel) (by decide +kernel) (fun _ _ _ h => h) ?_ (by assumption) ?_
    · exact yieldsIf_load_mid (by rfl) 27 _ (by rfl) w2.heap.size 0 (by rfl) cs _ (fun _ h => h.1) Tryd.underlying27 (by rfl) HSZ.out
    simp only [Act.put, List.setIfInBounds_toArray, List.set_cons_zero, List.set_cons_succ]
    refine wpAnyH_take (i := 13) (v := ?_) (List.getElem?_toArray.trans rfl) (by decide +kernel) (by decide +kernel) (by decide +kernel) (fun _ _ _ h => h) (Or.inl ⟨by rfl, ?_⟩) (by assumption) ?_
    case refine_2 => (intro w hSw; (try dsimp only at hSw); clear hSw; go_simp <;> with_reducible rfl)
    simp only [Act.put, List.setIfInBounds_toArray, List.set_cons_zero, List.set_cons_succ]
    refine wpAnyH_take (i := 15) (v := ?_) (List.getElem?_toArray.trans rfl) (by decide +kernel) (by decide +kernel) (by decide +kernel) (fun _ _ _ h => h) (Or.inl ⟨by rfl, ?_⟩) (by assumption) ?_
    case refine_2 => (intro w hSw; (try dsimp only at hSw); clear hSw; go_simp <;> with_reducible rfl)
    simp only [Act.put, List.setIfInBounds_toArray, List.set_cons_zero, List.set_cons_succ]
    refine wpAnyH_ready (rs := [14]) (by decide +kernel) (by simp) ?_
    refine AllReadyH.cons (List.getElem?_toArray.trans rfl) (fun K hK => ?_) AllReadyH.nil
    go_simp
    go_at_call 14; first | ((with_reducible refine (KH1.out _).mono ?_); rintro e wn ⟨rfl, hbn⟩; replace HB0 := Lib.hid (HB0.out.trans (hbn.mono HB0.out.size)); have hP := HPS.out _ HB0.out; (try replace HO1 := Lib.hid (own_belowN HO1.out hbn)); (try replace HVB := Lib.hid ((HVB.out.below hbn).mono hbn.size)); clear hbn) | ((with_reducible refine (KH2.out _).mono ?_); rintro e wn ⟨rfl, hbn⟩; replace HB0 := Lib.hid (HB0.out.trans (hbn.mono HB0.out.size)); have hP := HPS.out _ HB0.out; (try replace HO1 := Lib.hid (own_belowN HO1.out hbn)); (try replace HVB := Lib.hid ((HVB.out.below hbn).mono hbn.size)); clear hbn) | ((with_reducible refine (KH3.out _).mono ?_); rintro e wn ⟨rfl, hbn⟩; replace HB0 := Lib.hid (HB0.out.trans (hbn.mono HB0.out.size)); have hP := HPS.out _ HB0.out; (try replace HO1 := Lib.hid (own_belowN HO1.out hbn)); (try replace HVB := Lib.hid ((HVB.out.below hbn).mono hbn.size)); clear hbn) | ((with_reducible refine (KH4.out _).mono ?_); rintro e wn ⟨rfl, hbn⟩; replace HB0 := Lib.hid (HB0.out.trans (hbn.mono HB0.out.size)); have hP := HPS.out _ HB0.out; (try replace HO1 := Lib.hid (own_belowN HO1.out hbn)); (try replace HVB := Lib.hid ((HVB.out.below hbn).mono hbn.size)); clear hbn)
    refine hK.out _ _ hP (fun hHeld => ?_)
    clear hK K
    refine wpAnyH_take (i := 16) (v := ?_) (List.getElem?_toArray.trans rfl) (by decide +kernel) (by decide +kernel) (by decide +kernel) (fun _ _ _ h => h) (Or.inl ⟨by rfl, ?_⟩) (by assumption) ?_
    case refine_2 => (intro w hSw; (try dsimp only at hSw); clear hSw; go_simp <;> with_reducible rfl)
    simp only [Act.put, List.setIfInBounds_toArray, List.set_cons_zero, List.set_cons_succ]
    refine wpAnyH_take (i := 17) (v := ?_) (List.getElem?_toArray.trans rfl) (by decide +kernel) (by decide +kernel) (by decide +kernel) (fun _ _ _ h => h) (Or.inl ⟨by rfl, ?_⟩) (by assumption) ?_
    case refine_2 => (intro w hSw; (try dsimp only at hSw); clear hSw; go_simp <;> with_reducible rfl)
    simp only [Act.put, List.setIfInBounds_toArray, List.set_cons_zero, List.set_cons_succ]
    refine wpAnyH_take (i := 18) (v := ?_) (List.getElem?_toArray.trans rfl) (by decide +kernel) (by decide +kernel) (by decide +kernel) (fun _ _ _ h => h) (Or.inl ⟨by rfl, ?_⟩) (by assumption) ?_
    case refine_2 => (intro w hSw; (try dsimp only at hSw); clear hSw; go_simp <;> with_reducible rfl)
    simp only [Act.put, List.setIfInBounds_toArray, List.set_cons_zero, List.set_cons_succ]
    refine wpAnyH_take (i := 19) (v := .agg cs.toArray) (List.getElem?_toArray.trans rfl) (by decide +kernel) (by decide +kernel) (by decide +kernel) (fun _ _ _ h => h) ?_ (by assumption) ?_
    · exact yieldsIf_load_mid (by rfl) 27 _ (by rfl) w2.heap.size 0 (by rfl) cs _ (fun _ h => h.1) Tryd.underlying27 (by rfl) HSZ.out
    simp only [Act.put, List.setIfInBounds_toArray, List.set_cons_zero, List.set_cons_succ]
    refine wpAnyH_take (i := 20) (v := ?_) (List.getElem?_toArray.trans rfl) (by decide +kernel) (by decide +kernel) (by decide +kernel) (fun _ _ _ h => h) (Or.inl ⟨by rfl, ?_⟩) (by assumption) ?_
    case refine_2 => (intro w hSw; (try dsimp only at hSw); clear hSw; go_simp <;> with_reducible rfl)
    simp only [Act.put, List.setIfInBounds_toArray, List.set_cons_zero, List.set_cons_succ]
    refine wpAnyH_take (i := 22) (v := ?_) (List.getElem?_toArray.trans rfl) (by decide +kernel) (by decide +kernel) (by decide +kernel) (fun _ _ _ h => h) (Or.inl ⟨by rfl, ?_⟩) (by assumption) ?_
    case refine_2 => (intro w hSw; (try dsimp only at hSw); clear hSw; go_simp <;> with_reducible rfl)
    simp only [Act.put, List.setIfInBounds_toArray, List.set_cons_zero, List.set_cons_succ]
    refine wpAnyH_take (i := 24) (v := ?_) (List.getElem?_toArray.trans rfl) (by decide +kernel) (by decide +kernel) (by decide +kernel) (fun _ _ _ h => h) (Or.inl ⟨by rfl, ?_⟩) (by assumption) ?_
    case refine_2 => (intro w hSw; (try dsimp only at hSw); clear hSw; go_simp <;> with_reducible rfl)
    simp only [Act.put, List.setIfInBounds_toArray, List.set_cons_zero, List.set_cons_succ]
    refine wpAnyH_ready (rs := [21]) (by decide +kernel) (by simp) ?_
    refine AllReadyH.cons (List.getElem?_toArray.trans rfl) (fun K hK => ?_) AllReadyH.nil
    go_simp
    go_at_call 15; first | ((with_reducible refine (KW1.out _).mono ?_); rintro e wn ⟨rfl, hbn⟩; replace HB0 := Lib.hid (HB0.out.trans (hbn.mono HB0.out.size)); have hP := HPS.out _ HB0.out; (try replace HO1 := Lib.hid (own_belowN HO1.out hbn)); (try replace HVB := Lib.hid ((HVB.out.below hbn).mono hbn.size)); clear hbn) | ((with_reducible refine (KW2.out _).mono ?_); rintro e wn ⟨rfl, hbn⟩; replace HB0 := Lib.hid (HB0.out.trans (hbn.mono HB0.out.size)); have hP := HPS.out _ HB0.out; (try replace HO1 := Lib.hid (own_belowN HO1.out hbn)); (try replace HVB := Lib.hid ((HVB.out.below hbn).mono hbn.size)); clear hbn)
    refine hK.out _ _ hP (fun hHeld => ?_)
    clear hK K
    refine wpAnyH_ready (rs := [23]) (by decide +kernel) (by simp) ?_
    refine AllReadyH.cons (List.getElem?_toArray.trans rfl) (fun K hK => ?_) AllReadyH.nil
    go_simp
    go_at_call 14; first | ((with_reducible refine (KH1.out _).mono ?_); rintro e wn ⟨rfl, hbn⟩; replace HB0 := Lib.hid (HB0.out.trans (hbn.mono HB0.out.size)); have hP := HPS.out _ HB0.out; (try replace HO1 := Lib.hid (own_belowN HO1.out hbn)); (try replace HVB := Lib.hid ((HVB.out.below hbn).mono hbn.size)); clear hbn) | ((with_reducible refine (KH2.out _).mono ?_); rintro e wn ⟨rfl, hbn⟩; replace HB0 := Lib.hid (HB0.out.trans (hbn.mono HB0.out.size)); have hP := HPS.out _ HB0.out; (try replace HO1 := Lib.hid (own_belowN HO1.out hbn)); (try replace HVB := Lib.hid ((HVB.out.below hbn).mono hbn.size)); clear hbn) | ((with_reducible refine (KH3.out _).mono ?_); rintro e wn ⟨rfl, hbn⟩; replace HB0 := Lib.hid (HB0.out.trans (hbn.mono HB0.out.size)); have hP := HPS.out _ HB0.out; (try replace HO1 := Lib.hid (own_belowN HO1.out hbn)); (try replace HVB := Lib.hid ((HVB.out.below hbn).mono hbn.size)); clear hbn) | ((with_reducible refine (KH4.out _).mono ?_); rintro e wn ⟨rfl, hbn⟩; replace HB0 := Lib.hid (HB0.out.trans (hbn.mono HB0.out.size)); have hP := HPS.out _ HB0.out; (try replace HO1 := Lib.hid (own_belowN HO1.out hbn)); (try replace HVB := Lib.hid ((HVB.out.below hbn).mono hbn.size)); clear hbn)
    refine hK.out _ _ hP (fun hHeld => ?_)
    clear hK K
    refine wpAnyH_take (i := 25) (v := ?_) (List.getElem?_toArray.trans rfl) (by decide +kernel) (by decide +kernel) (by decide +kernel) (fun _ _ _ h => h) (Or.inl ⟨by rfl, ?_⟩) (by assumption) ?_
    case refine_2 => (intro w hSw; (try dsimp only at hSw); clear hSw; go_simp <;> with_reducible rfl)
    simp only [Act.put, List.setIfInBounds_toArray, List.set_cons_zero, List.set_cons_succ]
    refine wpAnyH_take (i := 26) (v := ?_) (List.getElem?_toArray.trans rfl) (by decide +kernel) (by decide +kernel) (by decide +kernel) (fun _ _ _ h => h) (Or.inl ⟨by rfl, ?_⟩) (by assumption) ?_
    case refine_2 => (intro w hSw; (try dsimp only at hSw); clear hSw; go_simp <;> with_reducible rfl)
    simp only [Act.put, List.setIfInBounds_toArray, List.set_cons_zero, List.set_cons_succ]
    refine wpAnyH_take (i := 27) (v := ?_) (List.getElem?_toArray.trans rfl) (by decide +kernel) (by decide +kernel) (by decide +kernel) (fun _ _ _ h => h) (Or.inl ⟨by rfl, ?_⟩) (by assumption) ?_
    case refine_2 => (intro w hSw; (try dsimp only at hSw); clear hSw; go_simp <;> with_reducible rfl)
    simp only [Act.put, List.setIfInBounds_toArray, List.set_cons_zero, List.set_cons_succ]
    refine wpAnyH_take (i := 28) (v := .agg cs.toArray) (List.getElem?_toArray.trans rfl) (by decide +kernel) (by decide +kernel) (by decide +kernel) (fun _ _ _ h => h) ?_ (by assumption) ?_
    · exact yieldsIf_load_mid (by rfl) 27 _ (by rfl) w2.heap.size 0 (by rfl) cs _ (fun _ h => h.1) Tryd.underlying27 (by rfl) HSZ.out
    simp only [Act.put, List.setIfInBounds_toArray, List.set_cons_zero, List.set_cons_succ]
    refine wpAnyH_take (i := 29) (v := ?_) (List.getElem?_toArray.trans rfl) (by decide +kernel) (by decide +kernel) (by decide +kernel) (fun _ _ _ h => h) (Or.inl ⟨by rfl, ?_⟩) (by assumption) ?_
    case refine_2 => (intro w hSw; (try dsimp only at hSw); clear hSw; go_simp <;> with_reducible rfl)
    simp only [Act.put, List.setIfInBounds_toArray, List.set_cons_zero, List.set_cons_succ]
    refine wpAnyH_take (i := 31) (v := ?_) (List.getElem?_toArray.trans rfl) (by decide +kernel) (by decide +kernel) (by decide +kernel) (fun _ _ _ h => h) (Or.inl ⟨by rfl, ?_⟩) (by assumption) ?_
    case refine_2 => (intro w hSw; (try dsimp only at hSw); clear hSw; go_simp <;> with_reducible rfl)
    simp only [Act.put, List.setIfInBounds_toArray, List.set_cons_zero, List.set_cons_succ]
    refine wpAnyH_ready (rs := [30]) (by decide +kernel) (by simp) ?_
    refine AllReadyH.cons (List.getElem?_toArray.trans rfl) (fun K hK => ?_) AllReadyH.nil
    go_simp
    go_at_call 16; first | ((with_reducible refine (KWO.out _).mono ?_); rintro e wn ⟨rfl, hbn⟩; replace HB0 := Lib.hid (HB0.out.trans (hbn.mono HB0.out.size)); have hP := HPS.out _ HB0.out; (try replace HO1 := Lib.hid (own_belowN HO1.out hbn)); (try replace HVB := Lib.hid ((HVB.out.below hbn).mono hbn.size)); clear hbn)
    refine hK.out _ _ hP (fun hHeld => ?_)
    clear hK K
    refine wpAnyH_ready (rs := [32]) (by decide +kernel) (by simp) ?_
    refine AllReadyH.cons (List.getElem?_toArray.trans rfl) (fun K hK => ?_) AllReadyH.nil
    go_simp
    go_at_call 14; first | ((with_reducible refine (KH1.out _).mono ?_); rintro e wn ⟨rfl, hbn⟩; replace HB0 := Lib.hid (HB0.out.trans (hbn.mono HB0.out.size)); have hP := HPS.out _ HB0.out; (try replace HO1 := Lib.hid (own_belowN HO1.out hbn)); (try replace HVB := Lib.hid ((HVB.out.below hbn).mono hbn.size)); clear hbn) | ((with_reducible refine (KH2.out _).mono ?_); rintro e wn ⟨rfl, hbn⟩; replace HB0 := Lib.hid (HB0.out.trans (hbn.mono HB0.out.size)); have hP := HPS.out _ HB0.out; (try replace HO1 := Lib.hid (own_belowN HO1.out hbn)); (try replace HVB := Lib.hid ((HVB.out.below hbn).mono hbn.size)); clear hbn) | ((with_reducible refine (KH3.out _).mono ?_); rintro e wn ⟨rfl, hbn⟩; replace HB0 := Lib.hid (HB0.out.trans (hbn.mono HB0.out.size)); have hP := HPS.out _ HB0.out; (try replace HO1 := Lib.hid (own_belowN HO1.out hbn)); (try replace HVB := Lib.hid ((HVB.out.below hbn).mono hbn.size)); clear hbn) | ((with_reducible refine (KH4.out _).mono ?_); rintro e wn ⟨rfl, hbn⟩; replace HB0 := Lib.hid (HB0.out.trans (hbn.mono HB0.out.size)); have hP := HPS.out _ HB0.out; (try replace HO1 := Lib.hid (own_belowN HO1.out hbn)); (try replace HVB := Lib.hid ((HVB.out.below hbn).mono hbn.size)); clear hbn)
    refine hK.out _ _ hP (fun hHeld => ?_)
    clear hK K
    refine wpAnyH_take (i := 33) (v := ?_) (List.getElem?_toArray.trans rfl) (by decide +kernel) (by decide +kernel) (by decide +kernel) (fun _ _ _ h => h) (Or.inl ⟨by rfl, ?_⟩) (by assumption) ?_
    case refine_2 => (intro w hSw; (try dsimp only at hSw); clear hSw; go_simp <;> with_reducible rfl)
    simp only [Act.put, List.setIfInBounds_toArray, List.set_cons_zero, List.set_cons_succ]
    refine wpAnyH_take (i := 34) (v := ?_) (List.getElem?_toArray.trans rfl) (by decide +kernel) (by decide +kernel) (by decide +kernel) (fun _ _ _ h => h) (Or.inl ⟨by rfl, ?_⟩) (by assumption) ?_
    case refine_2 => (intro w hSw; (try dsimp only at hSw); clear hSw; go_simp <;> with_reducible rfl)
    simp only [Act.put, List.setIfInBounds_toArray, List.set_cons_zero, List.set_cons_succ]
    refine wpAnyH_take (i := 35) (v := ?_) (List.getElem?_toArray.trans rfl) (by decide +kernel) (by decide +kernel) (by decide +kernel) (fun _ _ _ h => h) (Or.inl ⟨by rfl, ?_⟩) (by assumption) ?_
    case refine_2 => (intro w hSw; (try dsimp only at hSw); clear hSw; go_simp <;> with_reducible rfl)
    simp only [Act.put, List.setIfInBounds_toArray, List.set_cons_zero, List.set_cons_succ]
    refine wpAnyH_take (i := 36) (v := .agg cs.toArray) (List.getElem?_toArray.trans rfl) (by decide +kernel) (by decide +kernel) (by decide +kernel) (fun _ _ _ h => h) ?_ (by assumption) ?_
    · exact yieldsIf_load_mid (by rfl) 27 _ (by rfl) w2.heap.size 0 (by rfl) cs _ (fun _ h => h.1) Tryd.underlying27 (by rfl) HSZ.out
    simp only [Act.put, List.setIfInBounds_toArray, List.set_cons_zero, List.set_cons_succ]
    refine wpAnyH_take (i := 37) (v := ?_) (List.getElem?_toArray.trans rfl) (by decide +kernel) (by decide +kernel) (by decide +kernel) (fun _ _ _ h => h) (Or.inl ⟨by rfl, ?_⟩) (by assumption) ?_
    case refine_2 => (intro w hSw; (try dsimp only at hSw); clear hSw; go_simp <;> with_reducible rfl)
    simp only [Act.put, List.setIfInBounds_toArray, List.set_cons_zero, List.set_cons_succ]
    refine wpAnyH_take (i := 39) (v := ?_) (List.getElem?_toArray.trans rfl) (by decide +kernel) (by decide +kernel) (by decide +kernel) (fun _ _ _ h => h) (Or.inl ⟨by rfl, ?_⟩) (by assumption) ?_
    case refine_2 => (intro w hSw; (try dsimp only at hSw); clear hSw; go_simp <;> with_reducible rfl)
    simp only [Act.put, List.setIfInBounds_toArray, List.set_cons_zero, List.set_cons_succ]
    refine wpAnyH_take (i := 41) (v := ?_) (List.getElem?_toArray.trans rfl) (by decide +kernel) (by decide +kernel) (by decide +kernel) (fun _ _ _ h => h) (Or.inl ⟨by rfl, ?_⟩) (by assumption) ?_
    case refine_2 => (intro w hSw; (try dsimp only at hSw); clear hSw; go_simp <;> with_reducible rfl)
    simp only [Act.put, List.setIfInBounds_toArray, List.set_cons_zero, List.set_cons_succ]
    refine wpAnyH_ready (rs := [38, 42]) (by decide +kernel) (by simp) ?_
    refine AllReadyH.cons (List.getElem?_toArray.trans rfl) (fun K hK => ?_) (AllReadyH.cons (List.getElem?_toArray.trans rfl) (fun K hK => ?_) AllReadyH.nil)
    · go_simp
      go_at_call 15; first | ((with_reducible refine (KW1.out _).mono ?_); rintro e wn ⟨rfl, hbn⟩; replace HB0 := Lib.hid (HB0.out.trans (hbn.mono HB0.out.size)); have hP := HPS.out _ HB0.out; (try replace HO1 := Lib.hid (own_belowN HO1.out hbn)); (try replace HVB := Lib.hid ((HVB.out.below hbn).mono hbn.size)); clear hbn) | ((with_reducible refine (KW2.out _).mono ?_); rintro e wn ⟨rfl, hbn⟩; replace HB0 := Lib.hid (HB0.out.trans (hbn.mono HB0.out.size)); have hP := HPS.out _ HB0.out; (try replace HO1 := Lib.hid (own_belowN HO1.out hbn)); (try replace HVB := Lib.hid ((HVB.out.below hbn).mono hbn.size)); clear hbn)
      refine hK.out _ _ hP (fun hHeld => ?_)
      clear hK K
      refine wpAnyH_ready (rs := [40, 42]) (by decide +kernel) (by simp) ?_
      refine AllReadyH.cons (List.getElem?_toArray.trans rfl) (fun K hK => ?_) (AllReadyH.cons (List.getElem?_toArray.trans rfl) (fun K hK => ?_) AllReadyH.nil)
      · refine step_append_vals (by rfl) _ _ _ (by rfl) wc.drew.heap.size 3 i0 (.int .i64 0) 8 Tryd.underlying22 HI0.out HZI.out HSI.out HBI.out rfl (.slice none 0 0) 0 [] (by rfl) (World.ownsRow_nil _ _ _ _) w.heap.size A n c (nums .i64 l) (by rfl) (HAW.out _ HB0.out) (nums_one l) n (Nat.zero_add n) (nums .i64 l) (List.nil_append _) (by have := HN.out; omega) (by have := HN.out; omega) HB0.out.size ?_; intro A1 k1 wa ho1 hg1; have hbn := (Below.refl _ _).grown hg1 (Nat.le_refl _) (by simp [Value.ownBlock]); replace HB0 := Lib.hid (HB0.out.trans (hbn.mono HB0.out.size)); have hP := HPS.out _ HB0.out; (try replace HO1 := Lib.hid (own_belowN HO1.out hbn)); (try replace HVB := Lib.hid ((HVB.out.below hbn).mono hbn.size)); clear hbn; have HO1 := Lib.hid ho1; clear ho1 hg1
        refine hK.out _ _ hP (fun hHeld => ?_)
        clear hK K
        refine wpAnyH_ready (rs := [42]) (by decide +kernel) (by simp) ?_
        refine AllReadyH.cons (List.getElem?_toArray.trans rfl) (fun K hK => ?_) AllReadyH.nil
        go_simp; have hbn := (Below.refl wa.heap.size wa).alloc (Nat.le_refl _) (.cells #[.int .i64 i] 3); replace HB0 := Lib.hid (HB0.out.trans (hbn.mono HB0.out.size)); have hP := HPS.out _ HB0.out; (try replace HO1 := Lib.hid (own_belowN HO1.out hbn)); (try replace HVB := Lib.hid ((HVB.out.below hbn).mono hbn.size)); clear hbn; have HVB := Lib.hid ((Vs.new wa 3 (0, 0) #[.int .i64 i]).mono (B' := (wa.alloc (.cells #[.int .i64 i] 3)).heap.size) (by simp))
        refine hK.out _ _ hP (fun hHeld => ?_)
        clear hK K
        refine wpAnyH_ready (rs := [43]) (by decide +kernel) (by simp) ?_
        refine AllReadyH.cons (List.getElem?_toArray.trans rfl) (fun K hK => ?_) AllReadyH.nil
        refine step_append_vals (by rfl) _ _ _ (by rfl) wc.drew.heap.size 3 i0 (.int .i64 0) 8 Tryd.underlying22 HI0.out HZI.out HSI.out HBI.out rfl (.slice A1 n k1) n (nums .i64 l) (by rfl) HO1.out _ _ 1 1 [.int .i64 i] (by rfl) HVB.out (by intro u hu; simp at hu; subst hu; rfl) (n + 1) rfl (nums .i64 (l ++ [i])) (by rw [← nums_append]; rfl) (by have := HN.out; omega) (by have := HN.out; omega) HB0.out.size ?_; intro A2 k2 wa ho2 hg2; replace HB0 := Lib.hid (HB0.out.grown hg2 HB0.out.size (fun q hq => (HO1.out.lt q hq).1)); have hP := HPS.out _ HB0.out; have HV2 := Lib.hid (vs_slice ho2); clear ho2 hg2
        refine hK.out _ _ hP (fun hHeld => ?_)
        clear hK K
        refine wpAnyH_ready (rs := [44]) (by decide +kernel) (by simp) ?_
        refine AllReadyH.cons (List.getElem?_toArray.trans rfl) (fun K hK => ?_) AllReadyH.nil
        go_simp
        go_at_call 7; (with_reducible refine (KOF2.out _ A2 _ k2 HV2.out).mono ?_); rintro e wn ⟨rfl, hbn⟩; clear HO1 HVB; replace HB0 := Lib.hid (HB0.out.trans (hbn.mono HB0.out.size)); have hP := HPS.out _ HB0.out; (try replace HO1 := Lib.hid (own_belowN HO1.out hbn)); (try replace HVB := Lib.hid ((HVB.out.below hbn).mono hbn.size)); clear hbn
        refine hK.out _ _ hP (fun hHeld => ?_)
        clear hK K
        refine wpAnyH_take (i := 45) (v := ?_) (List.getElem?_toArray.trans rfl) (by decide +kernel) (by decide +kernel) (by decide +kernel) (fun _ _ _ h => h) (Or.inl ⟨by rfl, ?_⟩) (by assumption) ?_
        case refine_2 => (intro w hSw; (try dsimp only at hSw); clear hSw; go_simp <;> with_reducible rfl)
        simp only [Act.put, List.setIfInBounds_toArray, List.set_cons_zero, List.set_cons_succ]
        refine wpAnyH_take (i := 46) (v := ?_) (List.getElem?_toArray.trans rfl) (by decide +kernel) (by decide +kernel) (by decide +kernel) (fun _ _ _ h => h) (Or.inl ⟨by rfl, ?_⟩) (by assumption) ?_
        case refine_2 => (intro w hSw; (try dsimp only at hSw); clear hSw; go_simp <;> with_reducible rfl)
        simp only [Act.put, List.setIfInBounds_toArray, List.set_cons_zero, List.set_cons_succ]
        refine wpAnyH_take (i := 47) (v := ?_) (List.getElem?_toArray.trans rfl) (by decide +kernel) (by decide +kernel) (by decide +kernel) (fun _ _ _ h => h) (Or.inl ⟨by rfl, ?_⟩) (by assumption) ?_
        case refine_2 => (intro w hSw; (try dsimp only at hSw); clear hSw; go_simp <;> with_reducible rfl)
        simp only [Act.put, List.setIfInBounds_toArray, List.set_cons_zero, List.set_cons_succ]
        refine wpAnyH_take (i := 48) (v := .agg cs.toArray) (List.getElem?_toArray.trans rfl) (by decide +kernel) (by decide +kernel) (by decide +kernel) (fun _ _ _ h => h) ?_ (by assumption) ?_
        · exact yieldsIf_load_mid (by rfl) 27 _ (by rfl) w2.heap.size 0 (by rfl) cs _ (fun _ h => h.1) Tryd.underlying27 (by rfl) HSZ.out
        simp only [Act.put, List.setIfInBounds_toArray, List.set_cons_zero, List.set_cons_succ]
        refine wpAnyH_take (i := 49) (v := ?_) (List.getElem?_toArray.trans rfl) (by decide +kernel) (by decide +kernel) (by decide +kernel) (fun _ _ _ h => h) (Or.inl ⟨by rfl, ?_⟩) (by assumption) ?_
        case refine_2 => (intro w hSw; (try dsimp only at hSw); clear hSw; go_simp <;> with_reducible rfl)
        simp only [Act.put, List.setIfInBounds_toArray, List.set_cons_zero, List.set_cons_succ]
        refine wpAnyH_take (i := 51) (v := ?_) (List.getElem?_toArray.trans rfl) (by decide +kernel) (by decide +kernel) (by decide +kernel) (fun _ _ _ h => h) (Or.inl ⟨by rfl, ?_⟩) (by assumption) ?_
        case refine_2 => (intro w hSw; (try dsimp only at hSw); clear hSw; go_simp <;> with_reducible rfl)
        simp only [Act.put, List.setIfInBounds_toArray, List.set_cons_zero, List.set_cons_succ]
        refine wpAnyH_take (i := 53) (v := ?_) (List.getElem?_toArray.trans rfl) (by decide +kernel) (by decide +kernel) (by decide +kernel) (fun _ _ _ h => h) (Or.inl ⟨by rfl, ?_⟩) (by assumption) ?_
        case refine_2 => (intro w hSw; (try dsimp only at hSw); clear hSw; go_simp <;> with_reducible rfl)
        simp only [Act.put, List.setIfInBounds_toArray, List.set_cons_zero, List.set_cons_succ]
        refine wpAnyH_take (i := 55) (v := ?_) (List.getElem?_toArray.trans rfl) (by decide +kernel) (by decide +kernel) (by decide +kernel) (fun _ _ _ h => h) (Or.inl ⟨by rfl, ?_⟩) (by assumption) ?_
        case refine_2 => (intro w hSw; (try dsimp only at hSw); clear hSw; go_simp <;> with_reducible rfl)
        simp only [Act.put, List.setIfInBounds_toArray, List.set_cons_zero, List.set_cons_succ]
        refine wpAnyH_ready (rs := [50]) (by decide +kernel) (by simp) ?_
        refine AllReadyH.cons (List.getElem?_toArray.trans rfl) (fun K hK => ?_) AllReadyH.nil
        go_simp
        go_at_call 16; first | ((with_reducible refine (KWO.out _).mono ?_); rintro e wn ⟨rfl, hbn⟩; replace HB0 := Lib.hid (HB0.out.trans (hbn.mono HB0.out.size)); have hP := HPS.out _ HB0.out; (try replace HO1 := Lib.hid (own_belowN HO1.out hbn)); (try replace HVB := Lib.hid ((HVB.out.below hbn).mono hbn.size)); clear hbn)
        refine hK.out _ _ hP (fun hHeld => ?_)
        clear hK K
        refine wpAnyH_ready (rs := [52]) (by decide +kernel) (by simp) ?_
        refine AllReadyH.cons (List.getElem?_toArray.trans rfl) (fun K hK => ?_) AllReadyH.nil
        go_simp
        go_at_call 15; first | ((with_reducible refine (KW1.out _).mono ?_); rintro e wn ⟨rfl, hbn⟩; replace HB0 := Lib.hid (HB0.out.trans (hbn.mono HB0.out.size)); have hP := HPS.out _ HB0.out; (try replace HO1 := Lib.hid (own_belowN HO1.out hbn)); (try replace HVB := Lib.hid ((HVB.out.below hbn).mono hbn.size)); clear hbn) | ((with_reducible refine (KW2.out _).mono ?_); rintro e wn ⟨rfl, hbn⟩; replace HB0 := Lib.hid (HB0.out.trans (hbn.mono HB0.out.size)); have hP := HPS.out _ HB0.out; (try replace HO1 := Lib.hid (own_belowN HO1.out hbn)); (try replace HVB := Lib.hid ((HVB.out.below hbn).mono hbn.size)); clear hbn)
        refine hK.out _ _ hP (fun hHeld => ?_)
        clear hK K
        refine wpAnyH_ready (rs := [54]) (by decide +kernel) (by simp) ?_
        refine AllReadyH.cons (List.getElem?_toArray.trans rfl) (fun K hK => ?_) AllReadyH.nil
        go_simp
        go_at_call 14; first | ((with_reducible refine (KH1.out _).mono ?_); rintro e wn ⟨rfl, hbn⟩; replace HB0 := Lib.hid (HB0.out.trans (hbn.mono HB0.out.size)); have hP := HPS.out _ HB0.out; (try replace HO1 := Lib.hid (own_belowN HO1.out hbn)); (try replace HVB := Lib.hid ((HVB.out.below hbn).mono hbn.size)); clear hbn) | ((with_reducible refine (KH2.out _).mono ?_); rintro e wn ⟨rfl, hbn⟩; replace HB0 := Lib.hid (HB0.out.trans (hbn.mono HB0.out.size)); have hP := HPS.out _ HB0.out; (try replace HO1 := Lib.hid (own_belowN HO1.out hbn)); (try replace HVB := Lib.hid ((HVB.out.below hbn).mono hbn.size)); clear hbn) | ((with_reducible refine (KH3.out _).mono ?_); rintro e wn ⟨rfl, hbn⟩; replace HB0 := Lib.hid (HB0.out.trans (hbn.mono HB0.out.size)); have hP := HPS.out _ HB0.out; (try replace HO1 := Lib.hid (own_belowN HO1.out hbn)); (try replace HVB := Lib.hid ((HVB.out.below hbn).mono hbn.size)); clear hbn) | ((with_reducible refine (KH4.out _).mono ?_); rintro e wn ⟨rfl, hbn⟩; replace HB0 := Lib.hid (HB0.out.trans (hbn.mono HB0.out.size)); have hP := HPS.out _ HB0.out; (try replace HO1 := Lib.hid (own_belowN HO1.out hbn)); (try replace HVB := Lib.hid ((HVB.out.below hbn).mono hbn.size)); clear hbn)
        refine hK.out _ _ hP (fun hHeld => ?_)
        clear hK K
        refine wpAnyH_take (i := 56) (v := ?_) (List.getElem?_toArray.trans rfl) (by decide +kernel) (by decide +kernel) (by decide +kernel) (fun _ _ _ h => h) (Or.inl ⟨by rfl, ?_⟩) (by assumption) ?_
        case refine_2 => (intro w hSw; (try dsimp only at hSw); clear hSw; go_simp <;> with_reducible rfl)
        simp only [Act.put, List.setIfInBounds_toArray, List.set_cons_zero, List.set_cons_succ]
        refine wpAnyH_take (i := 57) (v := ?_) (List.getElem?_toArray.trans rfl) (by decide +kernel) (by decide +kernel) (by decide +kernel) (fun _ _ _ h => h) (Or.inl ⟨by rfl, ?_⟩) (by assumption) ?_
        case refine_2 => (intro w hSw; (try dsimp only at hSw); clear hSw; go_simp <;> with_reducible rfl)
        simp only [Act.put, List.setIfInBounds_toArray, List.set_cons_zero, List.set_cons_succ]
        refine wpAnyH_take (i := 58) (v := ?_) (List.getElem?_toArray.trans rfl) (by decide +kernel) (by decide +kernel) (by decide +kernel) (fun _ _ _ h => h) (Or.inl ⟨by rfl, ?_⟩) (by assumption) ?_
        case refine_2 => (intro w hSw; (try dsimp only at hSw); clear hSw; go_simp <;> with_reducible rfl)
        simp only [Act.put, List.setIfInBounds_toArray, List.set_cons_zero, List.set_cons_succ]
        refine wpAnyH_take (i := 59) (v := ?_) (List.getElem?_toArray.trans rfl) (by decide +kernel) (by decide +kernel) (by decide +kernel) (fun _ _ _ h => h) (Or.inl ⟨by rfl, ?_⟩) (by assumption) ?_
        case refine_2 => (intro w hSw; (try dsimp only at hSw); clear hSw; go_simp <;> with_reducible rfl)
        simp only [Act.put, List.setIfInBounds_toArray, List.set_cons_zero, List.set_cons_succ]
        refine wpAnyH_take (i := 60) (v := ?_) (List.getElem?_toArray.trans rfl) (by decide +kernel) (by decide +kernel) (by decide +kernel) (fun _ _ _ h => h) (Or.inl ⟨by rfl, ?_⟩) (by assumption) ?_
        case refine_2 => (intro w hSw; (try dsimp only at hSw); clear hSw; go_simp <;> with_reducible rfl)
        simp only [Act.put, List.setIfInBounds_toArray, List.set_cons_zero, List.set_cons_succ]
        refine wpAnyH_take (i := 61) (v := undef) (List.getElem?_toArray.trans rfl) (by decide +kernel) (by decide +kernel) (by decide +kernel) (fun _ _ _ h => h) (Or.inr ⟨by rfl, rfl⟩) (by assumption) ?_
        simp only [Act.put, List.setIfInBounds_toArray, List.set_cons_zero, List.set_cons_succ]
        refine wpAnyH_take (i := 62) (v := undef) (List.getElem?_toArray.trans rfl) (by decide +kernel) (by decide +kernel) (by decide +kernel) (fun _ _ _ h => h) (Or.inr ⟨by rfl, rfl⟩) (by assumption) ?_
        simp only [Act.put, List.setIfInBounds_toArray, List.set_cons_zero, List.set_cons_succ]
        refine wpAnyH_take (i := 63) (v := undef) (List.getElem?_toArray.trans rfl) (by decide +kernel) (by decide +kernel) (by decide +kernel) (fun _ _ _ h => h) (Or.inr ⟨by rfl, rfl⟩) (by assumption) ?_
        simp only [Act.put, List.setIfInBounds_toArray, List.set_cons_zero, List.set_cons_succ]
        refine wpAnyH_take (i := 64) (v := undef) (List.getElem?_toArray.trans rfl) (by decide +kernel) (by decide +kernel) (by decide +kernel) (fun _ _ _ h => h) (Or.inr ⟨by rfl, rfl⟩) (by assumption) ?_
        simp only [Act.put, List.setIfInBounds_toArray, List.set_cons_zero, List.set_cons_succ]
        refine wpAnyH_take (i := 65) (v := undef) (List.getElem?_toArray.trans rfl) (by decide +kernel) (by decide +kernel) (by decide +kernel) (fun _ _ _ h => h) (Or.inr ⟨by rfl, rfl⟩) (by assumption) ?_
        simp only [Act.put, List.setIfInBounds_toArray, List.set_cons_zero, List.set_cons_succ]
        refine wpAnyH_take (i := 66) (v := ?_) (List.getElem?_toArray.trans rfl) (by decide +kernel) (by decide +kernel) (by decide +kernel) (fun _ _ _ h => h) (Or.inl ⟨by rfl, ?_⟩) (by assumption) ?_
        case refine_2 => (intro w hSw; (try dsimp only at hSw); clear hSw; go_simp <;> with_reducible rfl)
        simp only [Act.put, List.setIfInBounds_toArray, List.set_cons_zero, List.set_cons_succ]
        refine wpAnyH_take (i := 67) (v := ?_) (List.getElem?_toArray.trans rfl) (by decide +kernel) (by decide +kernel) (by decide +kernel) (fun _ _ _ h => h) (Or.inl ⟨by rfl, ?_⟩) (by assumption) ?_
        case refine_2 => (intro w hSw; (try dsimp only at hSw); clear hSw; go_simp <;> with_reducible rfl)
        simp only [Act.put, List.setIfInBounds_toArray, List.set_cons_zero, List.set_cons_succ]
        refine wpAnyH_ready (rs := [68]) (by decide +kernel) (by simp) ?_
        refine AllReadyH.cons (List.getElem?_toArray.trans rfl) (fun K hK => ?_) AllReadyH.nil
        have cR := (HRES.out _ HB0.out).cell; have fR := (HRES.out _ HB0.out).frozen; go_simp; have hP := HPS2.out _ HB0.out
        refine hK.out _ _ hP (fun hHeld => ?_)
        clear hK K
        refine wpAnyH_done (by decide +kernel) ?_ _
        refine NoPanic.normal ?_
        go_wp2
        refine ⟨by simp, .inl ⟨_, _, rfl, run_takeDeferred (HFIN.out _ HB0.out).2, ?_⟩⟩
        exact ⟨_, res_tells rfl (HFIN.out _ HB0.out).1.1, rfl, (HFIN.out _ HB0.out).1.2⟩
      · go_simp; have hbn := (Below.refl wn.heap.size wn).alloc (Nat.le_refl _) (.cells #[.int .i64 i] 3); replace HB0 := Lib.hid (HB0.out.trans (hbn.mono HB0.out.size)); have hP := HPS.out _ HB0.out; (try replace HO1 := Lib.hid (own_belowN HO1.out hbn)); (try replace HVB := Lib.hid ((HVB.out.below hbn).mono hbn.size)); clear hbn; have HVB := Lib.hid ((Vs.new wn 3 (0, 0) #[.int .i64 i]).mono (B' := (wn.alloc (.cells #[.int .i64 i] 3)).heap.size) (by simp))
        refine hK.out _ _ hP (fun hHeld => ?_)
        clear hK K
        refine wpAnyH_ready (rs := [40]) (by decide +kernel) (by simp) ?_
        refine AllReadyH.cons (List.getElem?_toArray.trans rfl) (fun K hK => ?_) AllReadyH.nil
        refine step_append_vals (by rfl) _ _ _ (by rfl) wc.drew.heap.size 3 i0 (.int .i64 0) 8 Tryd.underlying22 HI0.out HZI.out HSI.out HBI.out rfl (.slice none 0 0) 0 [] (by rfl) (World.ownsRow_nil _ _ _ _) w.heap.size A n c (nums .i64 l) (by rfl) (HAW.out _ HB0.out) (nums_one l) n (Nat.zero_add n) (nums .i64 l) (List.nil_append _) (by have := HN.out; omega) (by have := HN.out; omega) HB0.out.size ?_; intro A1 k1 wa ho1 hg1; have hbn := (Below.refl _ _).grown hg1 (Nat.le_refl _) (by simp [Value.ownBlock]); replace HB0 := Lib.hid (HB0.out.trans (hbn.mono HB0.out.size)); have hP := HPS.out _ HB0.out; (try replace HO1 := Lib.hid (own_belowN HO1.out hbn)); (try replace HVB := Lib.hid ((HVB.out.below hbn).mono hbn.size)); clear hbn; have HO1 := Lib.hid ho1; clear ho1 hg1
        refine hK.out _ _ hP (fun hHeld => ?_)
        clear hK K
        refine wpAnyH_ready (rs := [43]) (by decide +kernel) (by simp) ?_
        refine AllReadyH.cons (List.getElem?_toArray.trans rfl) (fun K hK => ?_) AllReadyH.nil
        refine step_append_vals (by rfl) _ _ _ (by rfl) wc.drew.heap.size 3 i0 (.int .i64 0) 8 Tryd.underlying22 HI0.out HZI.out HSI.out HBI.out rfl (.slice A1 n k1) n (nums .i64 l) (by rfl) HO1.out _ _ 1 1 [.int .i64 i] (by rfl) HVB.out (by intro u hu; simp at hu; subst hu; rfl) (n + 1) rfl (nums .i64 (l ++ [i])) (by rw [← nums_append]; rfl) (by have := HN.out; omega) (by have := HN.out; omega) HB0.out.size ?_; intro A2 k2 wa ho2 hg2; replace HB0 := Lib.hid (HB0.out.grown hg2 HB0.out.size (fun q hq => (HO1.out.lt q hq).1)); have hP := HPS.out _ HB0.out; have HV2 := Lib.hid (vs_slice ho2); clear ho2 hg2
        refine hK.out _ _ hP (fun hHeld => ?_)
        clear hK K
        refine wpAnyH_ready (rs := [44]) (by decide +kernel) (by simp) ?_
        refine AllReadyH.cons (List.getElem?_toArray.trans rfl) (fun K hK => ?_) AllReadyH.nil
        go_simp
        go_at_call 7; (with_reducible refine (KOF2.out _ A2 _ k2 HV2.out).mono ?_); rintro e wn ⟨rfl, hbn⟩; clear HO1 HVB; replace HB0 := Lib.hid (HB0.out.trans (hbn.mono HB0.out.size)); have hP := HPS.out _ HB0.out; (try replace HO1 := Lib.hid (own_belowN HO1.out hbn)); (try replace HVB := Lib.hid ((HVB.out.below hbn).mono hbn.size)); clear hbn
        refine hK.out _ _ hP (fun hHeld => ?_)
        clear hK K
        refine wpAnyH_take (i := 45) (v := ?_) (List.getElem?_toArray.trans rfl) (by decide +kernel) (by decide +kernel) (by decide +kernel) (fun _ _ _ h => h) (Or.inl ⟨by rfl, ?_⟩) (by assumption) ?_
        case refine_2 => (intro w hSw; (try dsimp only at hSw); clear hSw; go_simp <;> with_reducible rfl)
        simp only [Act.put, List.setIfInBounds_toArray, List.set_cons_zero, List.set_cons_succ]
        refine wpAnyH_take (i := 46) (v := ?_) (List.getElem?_toArray.trans rfl) (by decide +kernel) (by decide +kernel) (by decide +kernel) (fun _ _ _ h => h) (Or.inl ⟨by rfl, ?_⟩) (by assumption) ?_
        case refine_2 => (intro w hSw; (try dsimp only at hSw); clear hSw; go_simp <;> with_reducible rfl)
        simp only [Act.put, List.setIfInBounds_toArray, List.set_cons_zero, List.set_cons_succ]
        refine wpAnyH_take (i := 47) (v := ?_) (List.getElem?_toArray.trans rfl) (by decide +kernel) (by decide +kernel) (by decide +kernel) (fun _ _ _ h => h) (Or.inl ⟨by rfl, ?_⟩) (by assumption) ?_
        case refine_2 => (intro w hSw; (try dsimp only at hSw); clear hSw; go_simp <;> with_reducible rfl)
        simp only [Act.put, List.setIfInBounds_toArray, List.set_cons_zero, List.set_cons_succ]
        refine wpAnyH_take (i := 48) (v := .agg cs.toArray) (List.getElem?_toArray.trans rfl) (by decide +kernel) (by decide +kernel) (by decide +kernel) (fun _ _ _ h => h) ?_ (by assumption) ?_
        · exact yieldsIf_load_mid (by rfl) 27 _ (by rfl) w2.heap.size 0 (by rfl) cs _ (fun _ h => h.1) Tryd.underlying27 (by rfl) HSZ.out
        simp only [Act.put, List.setIfInBounds_toArray, List.set_cons_zero, List.set_cons_succ]
        refine wpAnyH_take (i := 49) (v := ?_) (List.getElem?_toArray.trans rfl) (by decide +kernel) (by decide +kernel) (by decide +kernel) (fun _ _ _ h => h) (Or.inl ⟨by rfl, ?_⟩) (by assumption) ?_
        case refine_2 => (intro w hSw; (try dsimp only at hSw); clear hSw; go_simp <;> with_reducible rfl)
        simp only [Act.put, List.setIfInBounds_toArray, List.set_cons_zero, List.set_cons_succ]
        refine wpAnyH_take (i := 51) (v := ?_) (List.getElem?_toArray.trans rfl) (by decide +kernel) (by decide +kernel) (by decide +kernel) (fun _ _ _ h => h) (Or.inl ⟨by rfl, ?_⟩) (by assumption) ?_
        case refine_2 => (intro w hSw; (try dsimp only at hSw); clear hSw; go_simp <;> with_reducible rfl)
        simp only [Act.put, List.setIfInBounds_toArray, List.set_cons_zero, List.set_cons_succ]
        refine wpAnyH_take (i := 53) (v := ?_) (List.getElem?_toArray.trans rfl) (by decide +kernel) (by decide +kernel) (by decide +kernel) (fun _ _ _ h => h) (Or.inl ⟨by rfl, ?_⟩) (by assumption) ?_
        case refine_2 => (intro w hSw; (try dsimp only at hSw); clear hSw; go_simp <;> with_reducible rfl)
        simp only [Act.put, List.setIfInBounds_toArray, List.set_cons_zero, List.set_cons_succ]
        refine wpAnyH_take (i := 55) (v := ?_) (List.getElem?_toArray.trans rfl) (by decide +kernel) (by decide +kernel) (by decide +kernel) (fun _ _ _ h => h) (Or.inl ⟨by rfl, ?_⟩) (by assumption) ?_
        case refine_2 => (intro w hSw; (try dsimp only at hSw); clear hSw; go_simp <;> with_reducible rfl)
        simp only [Act.put, List.setIfInBounds_toArray, List.set_cons_zero, List.set_cons_succ]
        refine wpAnyH_ready (rs := [50]) (by decide +kernel) (by simp) ?_
        refine AllReadyH.cons (List.getElem?_toArray.trans rfl) (fun K hK => ?_) AllReadyH.nil
        go_simp
        go_at_call 16; first | ((with_reducible refine (KWO.out _).mono ?_); rintro e wn ⟨rfl, hbn⟩; replace HB0 := Lib.hid (HB0.out.trans (hbn.mono HB0.out.size)); have hP := HPS.out _ HB0.out; (try replace HO1 := Lib.hid (own_belowN HO1.out hbn)); (try replace HVB := Lib.hid ((HVB.out.below hbn).mono hbn.size)); clear hbn)
        refine hK.out _ _ hP (fun hHeld => ?_)
        clear hK K
        refine wpAnyH_ready (rs := [52]) (by decide +kernel) (by simp) ?_
        refine AllReadyH.cons (List.getElem?_toArray.trans rfl) (fun K hK => ?_) AllReadyH.nil
        go_simp
        go_at_call 15; first | ((with_reducible refine (KW1.out _).mono ?_); rintro e wn ⟨rfl, hbn⟩; replace HB0 := Lib.hid (HB0.out.trans (hbn.mono HB0.out.size)); have hP := HPS.out _ HB0.out; (try replace HO1 := Lib.hid (own_belowN HO1.out hbn)); (try replace HVB := Lib.hid ((HVB.out.below hbn).mono hbn.size)); clear hbn) | ((with_reducible refine (KW2.out _).mono ?_); rintro e wn ⟨rfl, hbn⟩; replace HB0 := Lib.hid (HB0.out.trans (hbn.mono HB0.out.size)); have hP := HPS.out _ HB0.out; (try replace HO1 := Lib.hid (own_belowN HO1.out hbn)); (try replace HVB := Lib.hid ((HVB.out.below hbn).mono hbn.size)); clear hbn)
        refine hK.out _ _ hP (fun hHeld => ?_)
        clear hK K
        refine wpAnyH_ready (rs := [54]) (by decide +kernel) (by simp) ?_
        refine AllReadyH.cons (List.getElem?_toArray.trans rfl) (fun K hK => ?_) AllReadyH.nil
        go_simp
        go_at_call 14; first | ((with_reducible refine (KH1.out _).mono ?_); rintro e wn ⟨rfl, hbn⟩; replace HB0 := Lib.hid (HB0.out.trans (hbn.mono HB0.out.size)); have hP := HPS.out _ HB0.out; (try replace HO1 := Lib.hid (own_belowN HO1.out hbn)); (try replace HVB := Lib.hid ((HVB.out.below hbn).mono hbn.size)); clear hbn) | ((with_reducible refine (KH2.out _).mono ?_); rintro e wn ⟨rfl, hbn⟩; replace HB0 := Lib.hid (HB0.out.trans (hbn.mono HB0.out.size)); have hP := HPS.out _ HB0.out; (try replace HO1 := Lib.hid (own_belowN HO1.out hbn)); (try replace HVB := Lib.hid ((HVB.out.below hbn).mono hbn.size)); clear hbn) | ((with_reducible refine (KH3.out _).mono ?_); rintro e wn ⟨rfl, hbn⟩; replace HB0 := Lib.hid (HB0.out.trans (hbn.mono HB0.out.size)); have hP := HPS.out _ HB0.out; (try replace HO1 := Lib.hid (own_belowN HO1.out hbn)); (try replace HVB := Lib.hid ((HVB.out.below hbn).mono hbn.size)); clear hbn) | ((with_reducible refine (KH4.out _).mono ?_); rintro e wn ⟨rfl, hbn⟩; replace HB0 := Lib.hid (HB0.out.trans (hbn.mono HB0.out.size)); have hP := HPS.out _ HB0.out; (try replace HO1 := Lib.hid (own_belowN HO1.out hbn)); (try replace HVB := Lib.hid ((HVB.out.below hbn).mono hbn.size)); clear hbn)
        refine hK.out _ _ hP (fun hHeld => ?_)
        clear hK K
        refine wpAnyH_take (i := 56) (v := ?_) (List.getElem?_toArray.trans rfl) (by decide +kernel) (by decide +kernel) (by decide +kernel) (fun _ _ _ h => h) (Or.inl ⟨by rfl, ?_⟩) (by assumption) ?_
        case refine_2 => (intro w hSw; (try dsimp only at hSw); clear hSw; go_simp <;> with_reducible rfl)
        simp only [Act.put, List.setIfInBounds_toArray, List.set_cons_zero, List.set_cons_succ]
        refine wpAnyH_take (i := 57) (v := ?_) (List.getElem?_toArray.trans rfl) (by decide +kernel) (by decide +kernel) (by decide +kernel) (fun _ _ _ h => h) (Or.inl ⟨by rfl, ?_⟩) (by assumption) ?_
        case refine_2 => (intro w hSw; (try dsimp only at hSw); clear hSw; go_simp <;> with_reducible rfl)
        simp only [Act.put, List.setIfInBounds_toArray, List.set_cons_zero, List.set_cons_succ]
        refine wpAnyH_take (i := 58) (v := ?_) (List.getElem?_toArray.trans rfl) (by decide +kernel) (by decide +kernel) (by decide +kernel) (fun _ _ _ h => h) (Or.inl ⟨by rfl, ?_⟩) (by assumption) ?_
        case refine_2 => (intro w hSw; (try dsimp only at hSw); clear hSw; go_simp <;> with_reducible rfl)
        simp only [Act.put, List.setIfInBounds_toArray, List.set_cons_zero, List.set_cons_succ]
        refine wpAnyH_take (i := 59) (v := ?_) (List.getElem?_toArray.trans rfl) (by decide +kernel) (by decide +kernel) (by decide +kernel) (fun _ _ _ h => h) (Or.inl ⟨by rfl, ?_⟩) (by assumption) ?_
        case refine_2 => (intro w hSw; (try dsimp only at hSw); clear hSw; go_simp <;> with_reducible rfl)
        simp only [Act.put, List.setIfInBounds_toArray, List.set_cons_zero, List.set_cons_succ]
        refine wpAnyH_take (i := 60) (v := ?_) (List.getElem?_toArray.trans rfl) (by decide +kernel) (by decide +kernel) (by decide +kernel) (fun _ _ _ h => h) (Or.inl ⟨by rfl, ?_⟩) (by assumption) ?_
        case refine_2 => (intro w hSw; (try dsimp only at hSw); clear hSw; go_simp <;> with_reducible rfl)
        simp only [Act.put, List.setIfInBounds_toArray, List.set_cons_zero, List.set_cons_succ]
        refine wpAnyH_take (i := 61) (v := undef) (List.getElem?_toArray.trans rfl) (by decide +kernel) (by decide +kernel) (by decide +kernel) (fun _ _ _ h => h) (Or.inr ⟨by rfl, rfl⟩) (by assumption) ?_
        simp only [Act.put, List.setIfInBounds_toArray, List.set_cons_zero, List.set_cons_succ]
        refine wpAnyH_take (i := 62) (v := undef) (List.getElem?_toArray.trans rfl) (by decide +kernel) (by decide +kernel) (by decide +kernel) (fun _ _ _ h => h) (Or.inr ⟨by rfl, rfl⟩) (by assumption) ?_
        simp only [Act.put, List.setIfInBounds_toArray, List.set_cons_zero, List.set_cons_succ]
        refine wpAnyH_take (i := 63) (v := undef) (List.getElem?_toArray.trans rfl) (by decide +kernel) (by decide +kernel) (by decide +kernel) (fun _ _ _ h => h) (Or.inr ⟨by rfl, rfl⟩) (by assumption) ?_
        simp only [Act.put, List.setIfInBounds_toArray, List.set_cons_zero, List.set_cons_succ]
        refine wpAnyH_take (i := 64) (v := undef) (List.getElem?_toArray.trans rfl) (by decide +kernel) (by decide +kernel) (by decide +kernel) (fun _ _ _ h => h) (Or.inr ⟨by rfl, rfl⟩) (by assumption) ?_
        simp only [Act.put, List.setIfInBounds_toArray, List.set_cons_zero, List.set_cons_succ]
        refine wpAnyH_take (i := 65) (v := undef) (List.getElem?_toArray.trans rfl) (by decide +kernel) (by decide +kernel) (by decide +kernel) (fun _ _ _ h => h) (Or.inr ⟨by rfl, rfl⟩) (by assumption) ?_
        simp only [Act.put, List.setIfInBounds_toArray, List.set_cons_zero, List.set_cons_succ]
        refine wpAnyH_take (i := 66) (v := ?_) (List.getElem?_toArray.trans rfl) (by decide +kernel) (by decide +kernel) (by decide +kernel) (fun _ _ _ h => h) (Or.inl ⟨by rfl, ?_⟩) (by assumption) ?_
        case refine_2 => (intro w hSw; (try dsimp only at hSw); clear hSw; go_simp <;> with_reducible rfl)
        simp only [Act.put, List.setIfInBounds_toArray, List.set_cons_zero, List.set_cons_succ]
        refine wpAnyH_take (i := 67) (v := ?_) (List.getElem?_toArray.trans rfl) (by decide +kernel) (by decide +kernel) (by decide +kernel) (fun _ _ _ h => h) (Or.inl ⟨by rfl, ?_⟩) (by assumption) ?_
        case refine_2 => (intro w hSw; (try dsimp only at hSw); clear hSw; go_simp <;> with_reducible rfl)
        simp only [Act.put, List.setIfInBounds_toArray, List.set_cons_zero, List.set_cons_succ]
        refine wpAnyH_ready (rs := [68]) (by decide +kernel) (by simp) ?_
        refine AllReadyH.cons (List.getElem?_toArray.trans rfl) (fun K hK => ?_) AllReadyH.nil
        have cR := (HRES.out _ HB0.out).cell; have fR := (HRES.out _ HB0.out).frozen; go_simp; have hP := HPS2.out _ HB0.out
        refine hK.out _ _ hP (fun hHeld => ?_)
        clear hK K
        refine wpAnyH_done (by decide +kernel) ?_ _
        refine NoPanic.normal ?_
        go_wp2
        refine ⟨by simp, .inl ⟨_, _, rfl, run_takeDeferred (HFIN.out _ HB0.out).2, ?_⟩⟩
        exact ⟨_, res_tells rfl (HFIN.out _ HB0.out).1.1, rfl, (HFIN.out _ HB0.out).1.2⟩
    · go_simp; have hbn := (Below.refl wn.heap.size wn).alloc (Nat.le_refl _) (.cells #[.int .i64 i] 3); replace HB0 := Lib.hid (HB0.out.trans (hbn.mono HB0.out.size)); have hP := HPS.out _ HB0.out; (try replace HO1 := Lib.hid (own_belowN HO1.out hbn)); (try replace HVB := Lib.hid ((HVB.out.below hbn).mono hbn.size)); clear hbn; have HVB := Lib.hid ((Vs.new wn 3 (0, 0) #[.int .i64 i]).mono (B' := (wn.alloc (.cells #[.int .i64 i] 3)).heap.size) (by simp))
      refine hK.out _ _ hP (fun hHeld => ?_)
      clear hK K
      refine wpAnyH_ready (rs := [38]) (by decide +kernel) (by simp) ?_
      refine AllReadyH.cons (List.getElem?_toArray.trans rfl) (fun K hK => ?_) AllReadyH.nil
      go_simp
      go_at_call 15; first | ((with_reducible refine (KW1.out _).mono ?_); rintro e wn ⟨rfl, hbn⟩; replace HB0 := Lib.hid (HB0.out.trans (hbn.mono HB0.out.size)); have hP := HPS.out _ HB0.out; (try replace HO1 := Lib.hid (own_belowN HO1.out hbn)); (try replace HVB := Lib.hid ((HVB.out.below hbn).mono hbn.size)); clear hbn) | ((with_reducible refine (KW2.out _).mono ?_); rintro e wn ⟨rfl, hbn⟩; replace HB0 := Lib.hid (HB0.out.trans (hbn.mono HB0.out.size)); have hP := HPS.out _ HB0.out; (try replace HO1 := Lib.hid (own_belowN HO1.out hbn)); (try replace HVB := Lib.hid ((HVB.out.below hbn).mono hbn.size)); clear hbn)
      refine hK.out _ _ hP (fun hHeld => ?_)
      clear hK K
      refine wpAnyH_ready (rs := [40]) (by decide +kernel) (by simp) ?_
      refine AllReadyH.cons (List.getElem?_toArray.trans rfl) (fun K hK => ?_) AllReadyH.nil
      refine step_append_vals (by rfl) _ _ _ (by rfl) wc.drew.heap.size 3 i0 (.int .i64 0) 8 Tryd.underlying22 HI0.out HZI.out HSI.out HBI.out rfl (.slice none 0 0) 0 [] (by rfl) (World.ownsRow_nil _ _ _ _) w.heap.size A n c (nums .i64 l) (by rfl) (HAW.out _ HB0.out) (nums_one l) n (Nat.zero_add n) (nums .i64 l) (List.nil_append _) (by have := HN.out; omega) (by have := HN.out; omega) HB0.out.size ?_; intro A1 k1 wa ho1 hg1; have hbn := (Below.refl _ _).grown hg1 (Nat.le_refl _) (by simp [Value.ownBlock]); replace HB0 := Lib.hid (HB0.out.trans (hbn.mono HB0.out.size)); have hP := HPS.out _ HB0.out; (try replace HO1 := Lib.hid (own_belowN HO1.out hbn)); (try replace HVB := Lib.hid ((HVB.out.below hbn).mono hbn.size)); clear hbn; have HO1 := Lib.hid ho1; clear ho1 hg1
      refine hK.out _ _ hP (fun hHeld => ?_)
      clear hK K
      refine wpAnyH_ready (rs := [43]) (by decide +kernel) (by simp) ?_
      refine AllReadyH.cons (List.getElem?_toArray.trans rfl) (fun K hK => ?_) AllReadyH.nil
      refine step_append_vals (by rfl) _ _ _ (by rfl) wc.drew.heap.size 3 i0 (.int .i64 0) 8 Tryd.underlying22 HI0.out HZI.out HSI.out HBI.out rfl (.slice A1 n k1) n (nums .i64 l) (by rfl) HO1.out _ _ 1 1 [.int .i64 i] (by rfl) HVB.out (by intro u hu; simp at hu; subst hu; rfl) (n + 1) rfl (nums .i64 (l ++ [i])) (by rw [← nums_append]; rfl) (by have := HN.out; omega) (by have := HN.out; omega) HB0.out.size ?_; intro A2 k2 wa ho2 hg2; replace HB0 := Lib.hid (HB0.out.grown hg2 HB0.out.size (fun q hq => (HO1.out.lt q hq).1)); have hP := HPS.out _ HB0.out; have HV2 := Lib.hid (vs_slice ho2); clear ho2 hg2
      refine hK.out _ _ hP (fun hHeld => ?_)
      clear hK K
      refine wpAnyH_ready (rs := [44]) (by decide +kernel) (by simp) ?_
      refine AllReadyH.cons (List.getElem?_toArray.trans rfl) (fun K hK => ?_) AllReadyH.nil
      go_simp
      go_at_call 7; (with_reducible refine (KOF2.out _ A2 _ k2 HV2.out).mono ?_); rintro e wn ⟨rfl, hbn⟩; clear HO1 HVB; replace HB0 := Lib.hid (HB0.out.trans (hbn.mono HB0.out.size)); have hP := HPS.out _ HB0.out; (try replace HO1 := Lib.hid (own_belowN HO1.out hbn)); (try replace HVB := Lib.hid ((HVB.out.below hbn).mono hbn.size)); clear hbn
      refine hK.out _ _ hP (fun hHeld => ?_)
      clear hK K
      refine wpAnyH_take (i := 45) (v := ?_) (List.getElem?_toArray.trans rfl) (by decide +kernel) (by decide +kernel) (by decide +kernel) (fun _ _ _ h => h) (Or.inl ⟨by rfl, ?_⟩) (by assumption) ?_
      case refine_2 => (intro w hSw; (try dsimp only at hSw); clear hSw; go_simp <;> with_reducible rfl)
      simp only [Act.put, List.setIfInBounds_toArray, List.set_cons_zero, List.set_cons_succ]
      refine wpAnyH_take (i := 46) (v := ?_) (List.getElem?_toArray.trans rfl) (by decide +kernel) (by decide +kernel) (by decide +kernel) (fun _ _ _ h => h) (Or.inl ⟨by rfl, ?_⟩) (by assumption) ?_
      case refine_2 => (intro w hSw; (try dsimp only at hSw); clear hSw; go_simp <;> with_reducible rfl)
      simp only [Act.put, List.setIfInBounds_toArray, List.set_cons_zero, List.set_cons_succ]
      refine wpAnyH_take (i := 47) (v := ?_) (List.getElem?_toArray.trans rfl) (by decide +kernel) (by decide +kernel) (by decide +kernel) (fun _ _ _ h => h) (Or.inl ⟨by rfl, ?_⟩) (by assumption) ?_
      case refine_2 => (intro w hSw; (try dsimp only at hSw); clear hSw; go_simp <;> with_reducible rfl)
      simp only [Act.put, List.setIfInBounds_toArray, List.set_cons_zero, List.set_cons_succ]
      refine wpAnyH_take (i := 48) (v := .agg cs.toArray) (List.getElem?_toArray.trans rfl) (by decide +kernel) (by decide +kernel) (by decide +kernel) (fun _ _ _ h => h) ?_ (by assumption) ?_
      · exact yieldsIf_load_mid (by rfl) 27 _ (by rfl) w2.heap.size 0 (by rfl) cs _ (fun _ h => h.1) Tryd.underlying27 (by rfl) HSZ.out
      simp only [Act.put, List.setIfInBounds_toArray, List.set_cons_zero, List.set_cons_succ]
      refine wpAnyH_take (i := 49) (v := ?_) (List.getElem?_toArray.trans rfl) (by decide +kernel) (by decide +kernel) (by decide +kernel) (fun _ _ _ h => h) (Or.inl ⟨by rfl, ?_⟩) (by assumption) ?_
      case refine_2 => (intro w hSw; (try dsimp only at hSw); clear hSw; go_simp <;> with_reducible rfl)
      simp only [Act.put, List.setIfInBounds_toArray, List.set_cons_zero, List.set_cons_succ]
      refine wpAnyH_take (i := 51) (v := ?_) (List.getElem?_toArray.trans rfl) (by decide +kernel) (by decide +kernel) (by decide +kernel) (fun _ _ _ h => h) (Or.inl ⟨by rfl, ?_⟩) (by assumption) ?_
      case refine_2 => (intro w hSw; (try dsimp only at hSw); clear hSw; go_simp <;> with_reducible rfl)
      simp only [Act.put, List.setIfInBounds_toArray, List.set_cons_zero, List.set_cons_succ]
      refine wpAnyH_take (i := 53) (v := ?_) (List.getElem?_toArray.trans rfl) (by decide +kernel) (by decide +kernel) (by decide +kernel) (fun _ _ _ h => h) (Or.inl ⟨by rfl, ?_⟩) (by assumption) ?_
      case refine_2 => (intro w hSw; (try dsimp only at hSw); clear hSw; go_simp <;> with_reducible rfl)
      simp only [Act.put, List.setIfInBounds_toArray, List.set_cons_zero, List.set_cons_succ]
      refine wpAnyH_take (i := 55) (v := ?_) (List.getElem?_toArray.trans rfl) (by decide +kernel) (by decide +kernel) (by decide +kernel) (fun _ _ _ h => h) (Or.inl ⟨by rfl, ?_⟩) (by assumption) ?_
      case refine_2 => (intro w hSw; (try dsimp only at hSw); clear hSw; go_simp <;> with_reducible rfl)
      simp only [Act.put, List.setIfInBounds_toArray, List.set_cons_zero, List.set_cons_succ]
      refine wpAnyH_ready (rs := [50]) (by decide +kernel) (by simp) ?_
      refine AllReadyH.cons (List.getElem?_toArray.trans rfl) (fun K hK => ?_) AllReadyH.nil
      go_simp
      go_at_call 16; first | ((with_reducible refine (KWO.out _).mono ?_); rintro e wn ⟨rfl, hbn⟩; replace HB0 := Lib.hid (HB0.out.trans (hbn.mono HB0.out.size)); have hP := HPS.out _ HB0.out; (try replace HO1 := Lib.hid (own_belowN HO1.out hbn)); (try replace HVB := Lib.hid ((HVB.out.below hbn).mono hbn.size)); clear hbn)
      refine hK.out _ _ hP (fun hHeld => ?_)
      clear hK K
      refine wpAnyH_ready (rs := [52]) (by decide +kernel) (by simp) ?_
      refine AllReadyH.cons (List.getElem?_toArray.trans rfl) (fun K hK => ?_) AllReadyH.nil
      go_simp
      go_at_call 15; first | ((with_reducible refine (KW1.out _).mono ?_); rintro e wn ⟨rfl, hbn⟩; replace HB0 := Lib.hid (HB0.out.trans (hbn.mono HB0.out.size)); have hP := HPS.out _ HB0.out; (try replace HO1 := Lib.hid (own_belowN HO1.out hbn)); (try replace HVB := Lib.hid ((HVB.out.below hbn).mono hbn.size)); clear hbn) | ((with_reducible refine (KW2.out _).mono ?_); rintro e wn ⟨rfl, hbn⟩; replace HB0 := Lib.hid (HB0.out.trans (hbn.mono HB0.out.size)); have hP := HPS.out _ HB0.out; (try replace HO1 := Lib.hid (own_belowN HO1.out hbn)); (try replace HVB := Lib.hid ((HVB.out.below hbn).mono hbn.size)); clear hbn)
      refine hK.out _ _ hP (fun hHeld => ?_)
      clear hK K
      refine wpAnyH_ready (rs := [54]) (by decide +kernel) (by simp) ?_
      refine AllReadyH.cons (List.getElem?_toArray.trans rfl) (fun K hK => ?_) AllReadyH.nil
      go_simp
      go_at_call 14; first | ((with_reducible refine (KH1.out _).mono ?_); rintro e wn ⟨rfl, hbn⟩; replace HB0 := Lib.hid (HB0.out.trans (hbn.mono HB0.out.size)); have hP := HPS.out _ HB0.out; (try replace HO1 := Lib.hid (own_belowN HO1.out hbn)); (try replace HVB := Lib.hid ((HVB.out.below hbn).mono hbn.size)); clear hbn) | ((with_reducible refine (KH2.out _).mono ?_); rintro e wn ⟨rfl, hbn⟩; replace HB0 := Lib.hid (HB0.out.trans (hbn.mono HB0.out.size)); have hP := HPS.out _ HB0.out; (try replace HO1 := Lib.hid (own_belowN HO1.out hbn)); (try replace HVB := Lib.hid ((HVB.out.below hbn).mono hbn.size)); clear hbn) | ((with_reducible refine (KH3.out _).mono ?_); rintro e wn ⟨rfl, hbn⟩; replace HB0 := Lib.hid (HB0.out.trans (hbn.mono HB0.out.size)); have hP := HPS.out _ HB0.out; (try replace HO1 := Lib.hid (own_belowN HO1.out hbn)); (try replace HVB := Lib.hid ((HVB.out.below hbn).mono hbn.size)); clear hbn) | ((with_reducible refine (KH4.out _).mono ?_); rintro e wn ⟨rfl, hbn⟩; replace HB0 := Lib.hid (HB0.out.trans (hbn.mono HB0.out.size)); have hP := HPS.out _ HB0.out; (try replace HO1 := Lib.hid (own_belowN HO1.out hbn)); (try replace HVB := Lib.hid ((HVB.out.below hbn).mono hbn.size)); clear hbn)
      refine hK.out _ _ hP (fun hHeld => ?_)
      clear hK K
      refine wpAnyH_take (i := 56) (v := ?_) (List.getElem?_toArray.trans rfl) (by decide +kernel) (by decide +kernel) (by decide +kernel) (fun _ _ _ h => h) (Or.inl ⟨by rfl, ?_⟩) (by assumption) ?_
      case refine_2 => (intro w hSw; (try dsimp only at hSw); clear hSw; go_simp <;> with_reducible rfl)
      simp only [Act.put, List.setIfInBounds_toArray, List.set_cons_zero, List.set_cons_succ]
      refine wpAnyH_take (i := 57) (v := ?_) (List.getElem?_toArray.trans rfl) (by decide +kernel) (by decide +kernel) (by decide +kernel) (fun _ _ _ h => h) (Or.inl ⟨by rfl, ?_⟩) (by assumption) ?_
      case refine_2 => (intro w hSw; (try dsimp only at hSw); clear hSw; go_simp <;> with_reducible rfl)
      simp only [Act.put, List.setIfInBounds_toArray, List.set_cons_zero, List.set_cons_succ]
      refine wpAnyH_take (i := 58) (v := ?_) (List.getElem?_toArray.trans rfl) (by decide +kernel) (by decide +kernel) (by decide +kernel) (fun _ _ _ h => h) (Or.inl ⟨by rfl, ?_⟩) (by assumption) ?_
      case refine_2 => (intro w hSw; (try dsimp only at hSw); clear hSw; go_simp <;> with_reducible rfl)
      simp only [Act.put, List.setIfInBounds_toArray, List.set_cons_zero, List.set_cons_succ]
      refine wpAnyH_take (i := 59) (v := ?_) (List.getElem?_toArray.trans rfl) (by decide +kernel) (by decide +kernel) (by decide +kernel) (fun _ _ _ h => h) (Or.inl ⟨by rfl, ?_⟩) (by assumption) ?_
      case refine_2 => (intro w hSw; (try dsimp only at hSw); clear hSw; go_simp <;> with_reducible rfl)
      simp only [Act.put, List.setIfInBounds_toArray, List.set_cons_zero, List.set_cons_succ]
      refine wpAnyH_take (i := 60) (v := ?_) (List.getElem?_toArray.trans rfl) (by decide +kernel) (by decide +kernel) (by decide +kernel) (fun _ _ _ h => h) (Or.inl ⟨by rfl, ?_⟩) (by assumption) ?_
      case refine_2 => (intro w hSw; (try dsimp only at hSw); clear hSw; go_simp <;> with_reducible rfl)
      simp only [Act.put, List.setIfInBounds_toArray, List.set_cons_zero, List.set_cons_succ]
      refine wpAnyH_take (i := 61) (v := undef) (List.getElem?_toArray.trans rfl) (by decide +kernel) (by decide +kernel) (by decide +kernel) (fun _ _ _ h => h) (Or.inr ⟨by rfl, rfl⟩) (by assumption) ?_
      simp only [Act.put, List.setIfInBounds_toArray, List.set_cons_zero, List.set_cons_succ]
      refine wpAnyH_take (i := 62) (v := undef) (List.getElem?_toArray.trans rfl) (by decide +kernel) (by decide +kernel) (by decide +kernel) (fun _ _ _ h => h) (Or.inr ⟨by rfl, rfl⟩) (by assumption) ?_
      simp only [Act.put, List.setIfInBounds_toArray, List.set_cons_zero, List.set_cons_succ]
      refine wpAnyH_take (i := 63) (v := undef) (List.getElem?_toArray.trans rfl) (by decide +kernel) (by decide +kernel) (by decide +kernel) (fun _ _ _ h => h) (Or.inr ⟨by rfl, rfl⟩) (by assumption) ?_
      simp only [Act.put, List.setIfInBounds_toArray, List.set_cons_zero, List.set_cons_succ]
      refine wpAnyH_take (i := 64) (v := undef) (List.getElem?_toArray.trans rfl) (by decide +kernel) (by decide +kernel) (by decide +kernel) (fun _ _ _ h => h) (Or.inr ⟨by rfl, rfl⟩) (by assumption) ?_
      simp only [Act.put, List.setIfInBounds_toArray, List.set_cons_zero, List.set_cons_succ]
      refine wpAnyH_take (i := 65) (v := undef) (List.getElem?_toArray.trans rfl) (by decide +kernel) (by decide +kernel) (by decide +kernel) (fun _ _ _ h => h) (Or.inr ⟨by rfl, rfl⟩) (by assumption) ?_
      simp only [Act.put, List.setIfInBounds_toArray, List.set_cons_zero, List.set_cons_succ]
      refine wpAnyH_take (i := 66) (v := ?_) (List.getElem?_toArray.trans rfl) (by decide +kernel) (by decide +kernel) (by decide +kernel) (fun _ _ _ h => h) (Or.inl ⟨by rfl, ?_⟩) (by assumption) ?_
      case refine_2 => (intro w hSw; (try dsimp only at hSw); clear hSw; go_simp <;> with_reducible rfl)
      simp only [Act.put, List.setIfInBounds_toArray, List.set_cons_zero, List.set_cons_succ]
      refine wpAnyH_take (i := 67) (v := ?_) (List.getElem?_toArray.trans rfl) (by decide +kernel) (by decide +kernel) (by decide +kernel) (fun _ _ _ h => h) (Or.inl ⟨by rfl, ?_⟩) (by assumption) ?_
      case refine_2 => (intro w hSw; (try dsimp only at hSw); clear hSw; go_simp <;> with_reducible rfl)
      simp only [Act.put, List.setIfInBounds_toArray, List.set_cons_zero, List.set_cons_succ]
      refine wpAnyH_ready (rs := [68]) (by decide +kernel) (by simp) ?_
      refine AllReadyH.cons (List.getElem?_toArray.trans rfl) (fun K hK => ?_) AllReadyH.nil
      have cR := (HRES.out _ HB0.out).cell; have fR := (HRES.out _ HB0.out).frozen; go_simp; have hP := HPS2.out _ HB0.out
      refine hK.out _ _ hP (fun hHeld => ?_)
      clear hK K
      refine wpAnyH_done (by decide +kernel) ?_ _
      refine NoPanic.normal ?_
      go_wp2
      refine ⟨by simp, .inl ⟨_, _, rfl, run_takeDeferred (HFIN.out _ HB0.out).2, ?_⟩⟩
      exact ⟨_, res_tells rfl (HFIN.out _ HB0.out).1.1, rfl, (HFIN.out _ HB0.out).1.2⟩

  have hbn7 : w4.heap.size + 1 < w7.heap.size := HBN7.out.lt
  refine (wpIn_wide (n := 30)).1 ?_
  refine wpIn_its (n := 30) (gf := gf) (lb := lb) rfl HEG.out HITS.out (Below.refl _ _) (fun j h => (HP.out j h).2) (fun _ => rfl)
    (fun m X => TSta w w2.heap.size w4.heap.size stop cs As ks S X ∧ Boxed X (w4.heap.size + 1) 3 (.int .i64 (m : Int)))
    (fun cc m X => cc = .exit 0 ∧ (TSta w w2.heap.size w4.heap.size stop cs As ks S X ∧ Boxed X (w4.heap.size + 1) 3 (.int .i64 (m : Int))) ∧ (m : Int) = stop)
    (OwnFrom.and (TSta.own (by omega)) (Own.from (boxed_own _ _ (fun (m : Nat) => .int .i64 (m : Int))) _))
    (fun cc m X Y row hs hg hr => ⟨hs.1, OwnFrom.and (TSta.own (by omega)) (Own.from (boxed_own _ _ (fun (m : Nat) => .int .i64 (m : Int))) _) m X Y row hs.2.1 hg hr, hs.2.2⟩)
    ⟨HT7.out, HBN7.out⟩
    (fun m a' _ => a' = { tmps := #[.slice A n c, .int .i64 i, .int .i64 stop, undef, undef, .pointer (some ⟨w.heap.size, 0, none⟩), .pointer (some ⟨w.heap.size + 1, 0, none⟩), .pointer (some ⟨w2.heap.size, 0, none⟩), .pointer (some ⟨w4.heap.size, 0, none⟩), .pointer (some ⟨w4.heap.size + 1, 0, none⟩), .int .i64 (nthS S m), undef, undef, .bool true, .bool false, .slice A n c, .int .i64 (n : Int), .bool false, .slice A n c, .agg cs.toArray, .slice A n c, .slice As S.length ks, .agg cs.toArray, .func (.func gf) #[] lb, .int .i64 (nthS S m), undef, undef, undef, undef, undef, undef, undef, undef, undef, undef, undef, undef, undef, undef, undef, undef, undef, undef, undef, undef, undef, undef, undef, undef, undef, undef, undef, undef, undef, undef, undef, undef, undef, undef, undef, undef, undef, undef, undef, undef, undef, undef, undef, undef, undef, undef, undef, undef, undef, undef, undef, undef, undef, undef, undef, undef, undef, undef, undef, undef, undef, undef, undef, undef, undef, undef, undef, undef, undef, undef, undef, undef, undef, undef, undef, undef, undef, undef, undef, undef, undef, undef, undef, undef, undef, undef, undef, undef, undef, undef, undef, undef, undef, undef, undef, undef, undef, undef, undef, undef, undef, undef, undef, undef, undef, undef], defers := [] })
    (fun m a' _ X Y row hs hg hr => hs)
    ?assign ?body ?done ?stop
  case assign =>
    rintro l2 m X K hm hX ⟨hT, hN⟩ hK
    gi_wp2
    exact hK _ _ (Stay.refl _ _) ⟨hT, hN⟩ rfl
  case body =>
    rintro l2 m a' X hm hX ⟨hT, hN⟩ rfl
    have cN := hN.cell
    have cS := hT.stop.cell
    have cW := hT.want.cell
    have fN := hN.frozen
    have hnp : ¬ (p (w4.heap.size + 1) ∨ w7.heap.size ≤ w4.heap.size + 1) := by
      rintro (h | h)
      · rcases (HP.out _ h).1 with h9 | h9
        · have := HT7.out.lt
          omega
        · simp at h9
          omega
      · omega
    by_cases hms : (m : Int) = stop
    · have e1 : ((m : Int) == stop) = true := by simp [hms]
      have HMS := Lib.hid hms
      clear hms
      gi_wp2
      exact ⟨Stay.refl _ _, rfl, ⟨hT, hN⟩, HMS.out⟩
    · have e1 : ((m : Int) == stop) = false := by simp [hms]
      obtain ⟨b, off, rfl, hb, hc⟩ := hT.vals.2 (by omega)
      have hel := hc m (by rw [nums_length]; exact hm)
      rw [nums_get .i64 S m (by rw [nums_length]; exact hm) hm] at hel
      rw [← nthS_eq hm] at hel
      have e2 : decide ((S.length : Int) ≤ (m : Int)) = false := decide_eq_false (by omega)
      have e3 : (nthS S m != nthS S m) = false := by simp
      have hml : (m : Int) < (S.length : Int) := by omega
      have hw : IntKind.i64.wrap ((m : Int) + 1) = (m : Int) + 1 := IntWalk.i64_in _ (by omega)
      have HTT := Lib.hid hT
      have HNN := Lib.hid hN
      generalize nthS S m = sv at *
      clear hT hN hc hms
      gi_wp2
      exact ⟨Stay.setCell _ _ hnp, HTT.out.setCell _ _ (Nat.lt_succ_self _), by rw [show ((m + 1 : Nat) : Int) = (m : Int) + 1 from rfl]; exact HNN.out.set _⟩
  case done =>
    rintro D X hD ⟨hT, hN⟩ hK
    exact key D X S.length hD hT hN (fun h => absurd rfl h) hK
  case stop =>
    rintro D cc m X hD hm ⟨rfl, ⟨hT, hN⟩, hms⟩ hK
    gi_wp2
    exact key D X m hD hT hN (fun _ => hms) hK
end
end Go.Proofs.YtgfafcolfcdkdaaDoor
