/-
  The walk of the statement on two maps, by the contracts: whatever cells a map has.
-/
import Derived.Test.YtgfafcolfcdkdaaDoorChecked
import Derived.Test.YtgfafcolfcdkdaaDoorRefIn
import Derived.Deep.MidRow
import Derived.Deep.RegionHeld3
import Derived.Deep.DeepCutAuto
namespace Go.Proofs.YtgfafcolfcdkdaaDoor
open Go.ChangeShapes Go.WideShapes Go.ChangeAt Go.RowKit
set_option maxRecDepth 100000

theorem range_below {w w' : World} {b o : Nat} {cs : List Value} (h : w.rangeAt b o cs) (hb : Below w.heap.size w w') (hlt : b < w.heap.size) : w'.rangeAt b o cs :=
  fun j v hv => (hb.cell (p := ⟨b, o + j, none⟩) hlt).trans (h j v hv)
theorem below_setCells2 {B : Nat} {a : World} : ∀ (vs : List Value) (b o : Nat) (w : World), B ≤ b → Below B a w → Below B a (w.setCells b o vs)
  | [], _, _, _, _, h => h
  | v :: r, b, o, w, hb, h => by
    rw [World.setCells]
    exact below_setCells2 r b (o + 1) _ hb (h.setCell hb v)
theorem there_new (w : World) (z : List Value) (T : TypeId) : (w.alloc (.cells z.toArray T)).there w.heap.size 0 z.length := fun j hj => by
  rw [Nat.zero_add, cell_of_row _ w.heap.size j z.toArray T (0, 0) (heap_alloc_new w _)]
  refine ⟨by simp [hj], ?_⟩
  have h : (w.alloc (.cells z.toArray T)).heap[w.heap.size]? = some (.cells z.toArray T (0, 0)) := heap_alloc_new w _
  unfold World.frozen?
  rw [h]
  simp
/-- two variables, made and set -/
theorem two_places (w : World) (z cs ct : List Value) (T : TypeId) (h1 : z.length = cs.length) (h2 : ct.length = cs.length) (h0 : 0 < cs.length) :
    ((w.alloc (.cells z.toArray T)).alloc (.cells z.toArray T)).there w.heap.size 0 cs.toArray.size ∧
    (((w.alloc (.cells z.toArray T)).alloc (.cells z.toArray T)).setCells w.heap.size 0 cs).there (w.heap.size + 1) 0 ct.toArray.size ∧
    ((((w.alloc (.cells z.toArray T)).alloc (.cells z.toArray T)).setCells w.heap.size 0 cs).setCells (w.heap.size + 1) 0 ct).rangeAt w.heap.size 0 cs ∧
    ((((w.alloc (.cells z.toArray T)).alloc (.cells z.toArray T)).setCells w.heap.size 0 cs).setCells (w.heap.size + 1) 0 ct).rangeAt (w.heap.size + 1) 0 ct ∧
    Below w.heap.size w ((((w.alloc (.cells z.toArray T)).alloc (.cells z.toArray T)).setCells w.heap.size 0 cs).setCells (w.heap.size + 1) 0 ct) ∧
    w.heap.size + 1 < ((((w.alloc (.cells z.toArray T)).alloc (.cells z.toArray T)).setCells w.heap.size 0 cs).setCells (w.heap.size + 1) 0 ct).heap.size := by
  have e1 : (w.alloc (.cells z.toArray T)).heap.size = w.heap.size + 1 := by simp
  have t1 := World.there_alloc (there_new w z T) (.cells z.toArray T)
  have t2 := there_new (w.alloc (.cells z.toArray T)) z T
  rw [e1] at t2
  rw [h1] at t1 t2
  have t3 := World.there_setCells t2 w.heap.size 0 cs
  have s1 : cs.toArray.size = cs.length := by simp
  have s2 : ct.toArray.size = cs.length := by simp [h2]
  rw [s1, s2]
  have r1 := World.rangeAt_setCells_same _ w.heap.size 0 cs t1
  have r2 := World.rangeAt_setCells_apart r1 (w.heap.size + 1) 0 ct (.inl (by omega))
  have r3 := World.rangeAt_setCells_same _ (w.heap.size + 1) 0 ct (by rw [h2]; exact t3)
  have b1 : Below w.heap.size w ((w.alloc (.cells z.toArray T)).alloc (.cells z.toArray T)) := ((Below.refl _ w).alloc (Nat.le_refl _) _).alloc (by simp) _
  refine ⟨t1, t3, r2, r3, below_setCells2 _ _ _ _ (Nat.le_succ _) (below_setCells2 _ _ _ _ (Nat.le_refl _) b1), ?_⟩
  obtain ⟨u, hu⟩ : ∃ u, ct[0]? = some u := ⟨_, List.getElem?_eq_getElem (by omega)⟩
  exact World.block_lt_of_cell? _ _ (r3 0 u hu)
/-- a map that lies there: it stays, it is read -/
theorem keep_map {w w' : World} {b : Nat} {cs : List Value} (h : w.rangeAt b 0 cs ∧ b < w.heap.size) (hb : Below w.heap.size w w') : w'.rangeAt b 0 cs ∧ b < w'.heap.size :=
  ⟨range_below h.1 hb h.2, Nat.lt_of_lt_of_le h.2 hb.size⟩
theorem load_map {w : World} {b : Nat} {cs : List Value} (h : w.rangeAt b 0 cs ∧ b < w.heap.size) (hi : (Tryd.prog.info? 27).map (·.size) = some cs.length) :
    (Instr.loadAt 27 (.pointer (some ⟨b, 0, none⟩))).run Tryd.prog w = .ok (.agg cs.toArray) w :=
  run_loadAt_mid w b 0 27 cs _ h.1 Tryd.underlying27 (by rfl) hi
/-- the numbers of a list that may be and that another has -/
def withinB (a b : List Int) : Bool := a.all fun k => decide (k < 0) || decide (4096 < k) || decide (k ∈ b)
theorem withinB_snoc (a b : List Int) (x : Int) : withinB (a ++ [x]) b = (withinB a b && (decide (x < 0) || decide (4096 < x) || decide (x ∈ b))) := by simp [withinB]
section
variable {A A2 : Option Addr} {n c n2 c2 : Nat} {i : Int} {cs ct cu ca z0 : List Value} {h1 h2 wi : Bool} {a b : List Int} {w : World}
theorem two_long (h : 60 < n ∨ 60 < n2) (ka : ∀ W, Below w.heap.size w W → Calls Tryd.prog 6 #[] W fun e w' => e = .returned (.bool true) ∧ Below W.heap.size W w') :
    Calls Tryd.prog 4 #[.slice A n c, .slice A2 n2 c2, .int .i64 i] w fun e w' => e = .returned (.bool true) ∧ Below w.heap.size w w' := by
  have HKA := Lib.hid (ka w (Below.refl _ _))
  by_cases h1 : 60 < n
  case' pos => have d1 : decide ((60 : Int) < (n : Int)) = true := decide_eq_true (by omega)
  case' neg =>
    have d1 : decide ((60 : Int) < (n : Int)) = false := decide_eq_false (by omega)
    have d2 : decide ((60 : Int) < (n2 : Int)) = true := decide_eq_true (by omega)
  all_goals
    clear h h1 ka
    go_enter Tryd.func4, Tryd.ntmps4
    go_wp2_with (go_at_call 6; (with_reducible refine HKA.out.mono ?_); rintro e w1 ⟨rfl, hb1⟩; have HB1 := Lib.hid hb1; clear hb1)
    go_ret
    exact ⟨rfl, HB1.out⟩
set_option maxHeartbeats 8000000 in
theorem two_core (hn : ¬ 60 < n) (hn2 : ¬ 60 < n2) (hA : Vs w w.heap.size A n (nums .i64 a)) (hA2 : Vs w w.heap.size A2 n2 (nums .i64 b))
    (ka : ∀ W, Below w.heap.size w W → Calls Tryd.prog 6 #[] W fun e w' => e = .returned (.bool true) ∧ Below W.heap.size W w')
    (hz : ∀ W, (zeroValue 27).run Tryd.prog W = .ok (.agg z0.toArray) W)
    (hsz : (Tryd.prog.info? 27).map (·.size) = some cs.length) (hst : ct.length = cs.length) (hsz0 : z0.length = cs.length)
    (o1 : ∀ v ∈ cs, v.oneCell' = true) (o2 : ∀ v ∈ ct, v.oneCell' = true)
    (kf1 : ∀ W, Below w.heap.size w W → Calls Tryd.prog 7 #[.slice A n c] W fun e w' => e = .returned (.agg cs.toArray) ∧ Below W.heap.size W w')
    (kf2 : ∀ W, Below w.heap.size w W → Calls Tryd.prog 7 #[.slice A2 n2 c2] W fun e w' => e = .returned (.agg ct.toArray) ∧ Below W.heap.size W w')
    (hwi : wi = withinB a b)
    (kor1 : ∀ W, Calls Tryd.prog 17 #[.agg cs.toArray, .agg ct.toArray] W fun e w' => e = .returned (.agg cu.toArray) ∧ Below W.heap.size W w')
    (kor2 : ∀ W, Calls Tryd.prog 17 #[.agg ct.toArray, .agg cs.toArray] W fun e w' => e = .returned (.agg cu.toArray) ∧ Below W.heap.size W w')
    (kand1 : ∀ W, Calls Tryd.prog 18 #[.agg cs.toArray, .agg ct.toArray] W fun e w' => e = .returned (.agg ca.toArray) ∧ Below W.heap.size W w')
    (kand2 : ∀ W, Calls Tryd.prog 18 #[.agg ct.toArray, .agg cs.toArray] W fun e w' => e = .returned (.agg ca.toArray) ∧ Below W.heap.size W w')
    (kh1 : ∀ W, Calls Tryd.prog 14 #[.agg cs.toArray, .int .i64 i] W fun e w' => e = .returned (.bool h1) ∧ Below W.heap.size W w')
    (kh2 : ∀ W, Calls Tryd.prog 14 #[.agg ct.toArray, .int .i64 i] W fun e w' => e = .returned (.bool h2) ∧ Below W.heap.size W w')
    (khu : ∀ W, Calls Tryd.prog 14 #[.agg cu.toArray, .int .i64 i] W fun e w' => e = .returned (.bool (h1 || h2)) ∧ Below W.heap.size W w')
    (kha : ∀ W, Calls Tryd.prog 14 #[.agg ca.toArray, .int .i64 i] W fun e w' => e = .returned (.bool (h1 && h2)) ∧ Below W.heap.size W w')
    (kw1 : ∀ W, Calls Tryd.prog 19 #[.agg cs.toArray, .agg ct.toArray] W fun e w' => e = .returned (.bool wi) ∧ Below W.heap.size W w')
    (kw2 : ∀ W, Calls Tryd.prog 19 #[.agg ca.toArray, .agg cs.toArray] W fun e w' => e = .returned (.bool true) ∧ Below W.heap.size W w')
    (kw3 : ∀ W, Calls Tryd.prog 19 #[.agg cs.toArray, .agg cu.toArray] W fun e w' => e = .returned (.bool true) ∧ Below W.heap.size W w')
    (heU : ∀ W, (binOp BinOp.eql 27 (.agg cu.toArray) (.agg cu.toArray)).run Tryd.prog W = .ok (.bool true) W) (heA : ∀ W, (binOp BinOp.eql 27 (.agg ca.toArray) (.agg ca.toArray)).run Tryd.prog W = .ok (.bool true) W) :
    Calls Tryd.prog 4 #[.slice A n c, .slice A2 n2 c2, .int .i64 i] w fun e w' => e = .returned (.bool true) ∧ Below w.heap.size w w' := by
  have HKA := Lib.hid (ka w (Below.refl _ _))
  have HF1 := Lib.hid kf1
  have HF2 := Lib.hid kf2
  have HA := Lib.hid hA
  have HA2 := Lib.hid hA2
  have HSZ := Lib.hid hsz
  have HST := Lib.hid hst
  have HS0 := Lib.hid hsz0
  have HLC : Hid (0 < cs.length) := Lib.hid (by
    have h65 : (Tryd.prog.info? 27).map (fun i => decide (0 < i.size)) = some true := by kernel_rfl
    cases hq : Tryd.prog.info? 27 with
    | none => rw [hq] at hsz; cases hsz
    | some q =>
      rw [hq] at hsz h65
      simp only [Option.map_some, Option.some.injEq, decide_eq_true_eq] at hsz h65
      omega)
  have HIA1 : Hid ((Tryd.prog.info? 27).map (·.size) = some cs.toArray.size) := Lib.hid (by rw [hsz]; simp)
  have HIA2 : Hid ((Tryd.prog.info? 27).map (·.size) = some ct.toArray.size) := Lib.hid (by rw [hsz]; simp [hst])
  have HO1 := Lib.hid (all_oneCell_toArray o1)
  have HO2 := Lib.hid (all_oneCell_toArray o2)
  have HWI := Lib.hid hwi
  have KOR1 := Lib.hid kor1
  have KOR2 := Lib.hid kor2
  have KAND1 := Lib.hid kand1
  have KAND2 := Lib.hid kand2
  have KH1 := Lib.hid kh1
  have KH2 := Lib.hid kh2
  have KHU := Lib.hid khu
  have KHA := Lib.hid kha
  have KW1 := Lib.hid kw1
  have KW2 := Lib.hid kw2
  have KW3 := Lib.hid kw3
  have HEU := Lib.hid heU
  have HEA := Lib.hid heA
  clear kor1 kor2 kand1 kand2 kh1 kh2 khu kha kw1 kw2 kw3 heU heA
  have d1 : decide ((60 : Int) < (n : Int)) = false := decide_eq_false (by omega)
  have d2 : decide ((60 : Int) < (n2 : Int)) = false := decide_eq_false (by omega)
  clear ka kf1 kf2 hA hA2 hsz hst hsz0 o1 o2 hwi
  go_enter Tryd.func4, Tryd.ntmps4
  go_wp2_with (first
    | (go_at_call 6; (with_reducible refine HKA.out.mono ?_); rintro e w1 ⟨rfl, hb1⟩; have HB1 := Lib.hid hb1; clear hb1)
    | (go_at_call 7; (with_reducible refine (HF1.out w1 HB1.out).mono ?_); rintro e w2 ⟨rfl, hb2⟩; have HB2 := Lib.hid (HB1.out.trans (hb2.mono HB1.out.size)); clear hb2)
    | (go_at_call 7; (with_reducible refine (HF2.out w2 HB2.out).mono ?_); rintro e w3 ⟨rfl, hb3⟩; have HB3 := Lib.hid (HB2.out.trans (hb3.mono HB2.out.size)); have HTP := Lib.hid (two_places w3 z0 cs ct 27 HS0.out HST.out HLC.out); clear hb3)
    | (refine wpList_store_mid (by rfl) 27 (.tmp 7) (.tmp 23) (by rfl) w3.heap.size 0 cs.toArray (by rfl) (by rfl) HTP.out.1 HIA1.out HO1.out ?_)
    | (refine wpList_store_mid (by rfl) 27 (.tmp 8) (.tmp 25) (by rfl) (w3.heap.size + 1) 0 ct.toArray (by rfl) (by rfl) HTP.out.2.1 HIA2.out HO2.out ?_))
  obtain ⟨-, -, hr1, hr2, hb4, hs4⟩ := HTP.out
  have HB4 := Lib.hid (HB3.out.trans (hb4.mono HB3.out.size))
  clear HTP hb4
  generalize World.setCells (World.setCells ((w3.alloc (.cells z0.toArray 27)).alloc (.cells z0.toArray 27)) w3.heap.size 0 cs) (w3.heap.size + 1) 0 ct = w4 at *
  have HR1 := Lib.hid (And.intro hr1 (show w3.heap.size < w4.heap.size by omega))
  have HR2 := Lib.hid (And.intro hr2 hs4)
  clear hr1 hr2 hs4
  go_loopw [9, 28] (fun v i wr => ∃ (k : Nat) (q : Bool), k ≤ n ∧ i = .int .i64 k ∧ v = .bool q ∧ Hid (q = withinB (a.take k) b) ∧ wr = w4) (fun _ i _ => n - (intOf i).toNat)
  case atStart => exact ⟨0, true, by omega, rfl, rfl, Lib.hid rfl, rfl⟩
  case round =>
    obtain ⟨k, q, hk, rfl, rfl, HQ, rfl⟩ := hrel
    by_cases hlt : k < n
    · obtain ⟨b1, o1, rfl, hB1, hc1⟩ := (HA.out.below HB4.out).2 (by omega)
      have hl := HA.out.1
      rw [nums_length] at hl
      have hkl' : k < a.length := by omega
      have e1 := hc1 k (by rw [nums_length]; exact hkl')
      rw [nums_get .i64 a k (by rw [nums_length]; exact hkl') hkl'] at e1
      have HW : Hid (withinB (a.take (k + 1)) b = (q && (decide (a[k] < 0) || decide (4096 < a[k]) || decide (a[k] ∈ b)))) := Lib.hid (by rw [List.take_succ_eq_append_getElem hkl', withinB_snoc, ← HQ.out])
      have ci := in01_any A2 n2 c2 a[k] w.heap.size b wr (HA2.out.below HB4.out) (by omega)
      generalize a[k] = x at e1 HW ci
      generalize decide (x ∈ b) = qi at HW ci
      clear hc1 hl hkl' hz
      cases q with
      | false =>
        go_wp2
        go_roundw
        case rel => exact ⟨k + 1, false, by omega, by go_num, rfl, Lib.hid (by rw [HW.out]; rfl), by first | rfl | trivial⟩
        case measure => simp [intOf]; omega
      | true =>
        by_cases hx1 : x < 0
        · have t1 : decide (x < 0) = true := decide_eq_true hx1
          rw [t1] at HW
          go_wp2
          go_roundw
          case rel => exact ⟨k + 1, true, by omega, by go_num, rfl, Lib.hid (by rw [HW.out]; simp), by first | rfl | trivial⟩
          case measure => simp [intOf]; omega
        · have t1 : decide (x < 0) = false := decide_eq_false hx1
          by_cases hx2 : 4096 < x
          · have t2 : decide (4096 < x) = true := decide_eq_true hx2
            rw [t1, t2] at HW
            go_wp2
            go_roundw
            case rel => exact ⟨k + 1, true, by omega, by go_num, rfl, Lib.hid (by rw [HW.out]; simp), by first | rfl | trivial⟩
            case measure => simp [intOf]; omega
          · have t2 : decide (4096 < x) = false := decide_eq_false hx2
            rw [t1, t2] at HW
            go_wp2_with (go_at_call 10; (with_reducible refine ci.mono ?_); rintro e w5 ⟨rfl, rfl⟩; clear ci)
            go_roundw
            case rel => exact ⟨k + 1, qi, by omega, by go_num, rfl, Lib.hid (by rw [HW.out]; simp), by first | rfl | trivial⟩
            case measure => simp [intOf]; omega
    · obtain rfl : k = n := by omega
      have HQW : Hid (q = wi) := Lib.hid (by
        have hl := HA.out.1
        rw [nums_length] at hl
        rw [HQ.out, HWI.out, List.take_of_length_le (by omega)])
      have hqw := HQW.out
      subst hqw
      have hi1 := HSZ.out
      have hi2 : (Tryd.prog.info? 27).map (·.size) = some ct.length := by rw [HSZ.out, HST.out]
      have heU := HEU.out
      have heA := HEA.out
      have HQ1 : Hid (wr.drew.rangeAt w3.heap.size 0 cs ∧ w3.heap.size < wr.drew.heap.size) := Lib.hid ⟨(World.rangeAt_drew _ _ _ _).2 HR1.out.1, HR1.out.2⟩
      have HQ2 : Hid (wr.drew.rangeAt (w3.heap.size + 1) 0 ct ∧ w3.heap.size + 1 < wr.drew.heap.size) := Lib.hid ⟨(World.rangeAt_drew _ _ _ _).2 HR2.out.1, HR2.out.2⟩
      have hP := And.intro HQ1.out.1 HQ2.out.1
      have HB := Lib.hid HB4.out.drew
      clear hz HQ HQW HWI
      cases h1
      · simp only [Bool.false_or, Bool.false_and] at KHU KHA
        go_wp2
        simp only [List.append_eq, List.cons_append, List.nil_append]
        refine wp_region_held_drew (S := (fun W => W.rangeAt w3.heap.size 0 cs ∧ W.rangeAt (w3.heap.size + 1) 0 ct)) (by kernel_rfl) hP (fun hHeld => ?_)
        refine wpAnyH_take (i := 0) (v := .agg cs.toArray) (List.getElem?_toArray.trans rfl) (by kernel_rfl) (by kernel_rfl) (by kernel_rfl) (fun _ _ _ h => h) ?_ (by assumption) ?_
        · exact yieldsIf_load_mid (by rfl) 27 _ (by rfl) w3.heap.size 0 (by rfl) cs _ (fun _ h => h.1) Tryd.underlying27 (by rfl) hi1
        simp only [Act.put, List.setIfInBounds_toArray, List.set_cons_zero, List.set_cons_succ]
        refine wpAnyH_take (i := 1) (v := .agg ct.toArray) (List.getElem?_toArray.trans rfl) (by kernel_rfl) (by kernel_rfl) (by kernel_rfl) (fun _ _ _ h => h) ?_ (by assumption) ?_
        · exact yieldsIf_load_mid (by rfl) 27 _ (by rfl) (w3.heap.size + 1) 0 (by rfl) ct _ (fun _ h => h.2) Tryd.underlying27 (by rfl) hi2
        simp only [Act.put, List.setIfInBounds_toArray, List.set_cons_zero, List.set_cons_succ]
        refine wpAnyH_take (i := 3) (v := ?_) (List.getElem?_toArray.trans rfl) (by kernel_rfl) (by kernel_rfl) (by kernel_rfl) (fun _ _ _ h => h) (Or.inl ⟨by rfl, ?_⟩) (by assumption) ?_
        case refine_2 => (intro w hSw; (try dsimp only at hSw); clear hSw; go_simp <;> with_reducible rfl)
        simp only [Act.put, List.setIfInBounds_toArray, List.set_cons_zero, List.set_cons_succ]
        refine wpAnyH_take (i := 5) (v := .agg cs.toArray) (List.getElem?_toArray.trans rfl) (by kernel_rfl) (by kernel_rfl) (by kernel_rfl) (fun _ _ _ h => h) ?_ (by assumption) ?_
        · exact yieldsIf_load_mid (by rfl) 27 _ (by rfl) w3.heap.size 0 (by rfl) cs _ (fun _ h => h.1) Tryd.underlying27 (by rfl) hi1
        simp only [Act.put, List.setIfInBounds_toArray, List.set_cons_zero, List.set_cons_succ]
        refine wpAnyH_take (i := 6) (v := ?_) (List.getElem?_toArray.trans rfl) (by kernel_rfl) (by kernel_rfl) (by kernel_rfl) (fun _ _ _ h => h) (Or.inl ⟨by rfl, ?_⟩) (by assumption) ?_
        case refine_2 => (intro w hSw; (try dsimp only at hSw); clear hSw; go_simp <;> with_reducible rfl)
        simp only [Act.put, List.setIfInBounds_toArray, List.set_cons_zero, List.set_cons_succ]
        refine wpAnyH_ready (rs := [2]) (by kernel_rfl) (by simp) ?_
        refine AllReadyH.cons (List.getElem?_toArray.trans rfl) (fun K hK => ?_) AllReadyH.nil
        go_simp
        go_at_call 17; first | ((with_reducible refine (KOR1.out _).mono ?_); rintro e wn ⟨rfl, hbn⟩; replace HQ1 := Lib.hid (keep_map HQ1.out hbn); replace HQ2 := Lib.hid (keep_map HQ2.out hbn); have hP := And.intro HQ1.out.1 HQ2.out.1; replace HB := Lib.hid (HB.out.trans (hbn.mono HB.out.size)); clear hbn) | ((with_reducible refine (KOR2.out _).mono ?_); rintro e wn ⟨rfl, hbn⟩; replace HQ1 := Lib.hid (keep_map HQ1.out hbn); replace HQ2 := Lib.hid (keep_map HQ2.out hbn); have hP := And.intro HQ1.out.1 HQ2.out.1; replace HB := Lib.hid (HB.out.trans (hbn.mono HB.out.size)); clear hbn)
        refine hK.out _ _ hP (fun hHeld => ?_)
        clear hK K
        refine wpAnyH_ready (rs := [4]) (by kernel_rfl) (by simp) ?_
        refine AllReadyH.cons (List.getElem?_toArray.trans rfl) (fun K hK => ?_) AllReadyH.nil
        go_simp
        go_at_call 14; first | ((with_reducible refine (KH1.out _).mono ?_); rintro e wn ⟨rfl, hbn⟩; replace HQ1 := Lib.hid (keep_map HQ1.out hbn); replace HQ2 := Lib.hid (keep_map HQ2.out hbn); have hP := And.intro HQ1.out.1 HQ2.out.1; replace HB := Lib.hid (HB.out.trans (hbn.mono HB.out.size)); clear hbn) | ((with_reducible refine (KH2.out _).mono ?_); rintro e wn ⟨rfl, hbn⟩; replace HQ1 := Lib.hid (keep_map HQ1.out hbn); replace HQ2 := Lib.hid (keep_map HQ2.out hbn); have hP := And.intro HQ1.out.1 HQ2.out.1; replace HB := Lib.hid (HB.out.trans (hbn.mono HB.out.size)); clear hbn) | ((with_reducible refine (KHU.out _).mono ?_); rintro e wn ⟨rfl, hbn⟩; replace HQ1 := Lib.hid (keep_map HQ1.out hbn); replace HQ2 := Lib.hid (keep_map HQ2.out hbn); have hP := And.intro HQ1.out.1 HQ2.out.1; replace HB := Lib.hid (HB.out.trans (hbn.mono HB.out.size)); clear hbn) | ((with_reducible refine (KHA.out _).mono ?_); rintro e wn ⟨rfl, hbn⟩; replace HQ1 := Lib.hid (keep_map HQ1.out hbn); replace HQ2 := Lib.hid (keep_map HQ2.out hbn); have hP := And.intro HQ1.out.1 HQ2.out.1; replace HB := Lib.hid (HB.out.trans (hbn.mono HB.out.size)); clear hbn)
        refine hK.out _ _ hP (fun hHeld => ?_)
        clear hK K
        refine wpAnyH_ready (rs := [7]) (by kernel_rfl) (by simp) ?_
        refine AllReadyH.cons (List.getElem?_toArray.trans rfl) (fun K hK => ?_) AllReadyH.nil
        go_simp
        go_at_call 14; first | ((with_reducible refine (KH1.out _).mono ?_); rintro e wn ⟨rfl, hbn⟩; replace HQ1 := Lib.hid (keep_map HQ1.out hbn); replace HQ2 := Lib.hid (keep_map HQ2.out hbn); have hP := And.intro HQ1.out.1 HQ2.out.1; replace HB := Lib.hid (HB.out.trans (hbn.mono HB.out.size)); clear hbn) | ((with_reducible refine (KH2.out _).mono ?_); rintro e wn ⟨rfl, hbn⟩; replace HQ1 := Lib.hid (keep_map HQ1.out hbn); replace HQ2 := Lib.hid (keep_map HQ2.out hbn); have hP := And.intro HQ1.out.1 HQ2.out.1; replace HB := Lib.hid (HB.out.trans (hbn.mono HB.out.size)); clear hbn) | ((with_reducible refine (KHU.out _).mono ?_); rintro e wn ⟨rfl, hbn⟩; replace HQ1 := Lib.hid (keep_map HQ1.out hbn); replace HQ2 := Lib.hid (keep_map HQ2.out hbn); have hP := And.intro HQ1.out.1 HQ2.out.1; replace HB := Lib.hid (HB.out.trans (hbn.mono HB.out.size)); clear hbn) | ((with_reducible refine (KHA.out _).mono ?_); rintro e wn ⟨rfl, hbn⟩; replace HQ1 := Lib.hid (keep_map HQ1.out hbn); replace HQ2 := Lib.hid (keep_map HQ2.out hbn); have hP := And.intro HQ1.out.1 HQ2.out.1; replace HB := Lib.hid (HB.out.trans (hbn.mono HB.out.size)); clear hbn)
        refine hK.out _ _ hP (fun hHeld => ?_)
        clear hK K
        refine wpAnyH_take (i := 8) (v := ?_) (List.getElem?_toArray.trans rfl) (by kernel_rfl) (by kernel_rfl) (by kernel_rfl) (fun _ _ _ h => h) (Or.inl ⟨by rfl, ?_⟩) (by assumption) ?_
        case refine_2 => (intro w hSw; (try dsimp only at hSw); clear hSw; go_simp <;> with_reducible rfl)
        simp only [Act.put, List.setIfInBounds_toArray, List.set_cons_zero, List.set_cons_succ]
        refine wpAnyH_take (i := 9) (v := .agg ct.toArray) (List.getElem?_toArray.trans rfl) (by kernel_rfl) (by kernel_rfl) (by kernel_rfl) (fun _ _ _ h => h) ?_ (by assumption) ?_
        · exact yieldsIf_load_mid (by rfl) 27 _ (by rfl) (w3.heap.size + 1) 0 (by rfl) ct _ (fun _ h => h.2) Tryd.underlying27 (by rfl) hi2
        simp only [Act.put, List.setIfInBounds_toArray, List.set_cons_zero, List.set_cons_succ]
        refine wpAnyH_take (i := 10) (v := ?_) (List.getElem?_toArray.trans rfl) (by kernel_rfl) (by kernel_rfl) (by kernel_rfl) (fun _ _ _ h => h) (Or.inl ⟨by rfl, ?_⟩) (by assumption) ?_
        case refine_2 => (intro w hSw; (try dsimp only at hSw); clear hSw; go_simp <;> with_reducible rfl)
        simp only [Act.put, List.setIfInBounds_toArray, List.set_cons_zero, List.set_cons_succ]
        refine wpAnyH_ready (rs := [11]) (by kernel_rfl) (by simp) ?_
        refine AllReadyH.cons (List.getElem?_toArray.trans rfl) (fun K hK => ?_) AllReadyH.nil
        go_simp
        go_at_call 14; first | ((with_reducible refine (KH1.out _).mono ?_); rintro e wn ⟨rfl, hbn⟩; replace HQ1 := Lib.hid (keep_map HQ1.out hbn); replace HQ2 := Lib.hid (keep_map HQ2.out hbn); have hP := And.intro HQ1.out.1 HQ2.out.1; replace HB := Lib.hid (HB.out.trans (hbn.mono HB.out.size)); clear hbn) | ((with_reducible refine (KH2.out _).mono ?_); rintro e wn ⟨rfl, hbn⟩; replace HQ1 := Lib.hid (keep_map HQ1.out hbn); replace HQ2 := Lib.hid (keep_map HQ2.out hbn); have hP := And.intro HQ1.out.1 HQ2.out.1; replace HB := Lib.hid (HB.out.trans (hbn.mono HB.out.size)); clear hbn) | ((with_reducible refine (KHU.out _).mono ?_); rintro e wn ⟨rfl, hbn⟩; replace HQ1 := Lib.hid (keep_map HQ1.out hbn); replace HQ2 := Lib.hid (keep_map HQ2.out hbn); have hP := And.intro HQ1.out.1 HQ2.out.1; replace HB := Lib.hid (HB.out.trans (hbn.mono HB.out.size)); clear hbn) | ((with_reducible refine (KHA.out _).mono ?_); rintro e wn ⟨rfl, hbn⟩; replace HQ1 := Lib.hid (keep_map HQ1.out hbn); replace HQ2 := Lib.hid (keep_map HQ2.out hbn); have hP := And.intro HQ1.out.1 HQ2.out.1; replace HB := Lib.hid (HB.out.trans (hbn.mono HB.out.size)); clear hbn)
        refine hK.out _ _ hP (fun hHeld => ?_)
        clear hK K
        refine wpAnyH_take (i := 12) (v := ?_) (List.getElem?_toArray.trans rfl) (by kernel_rfl) (by kernel_rfl) (by kernel_rfl) (fun _ _ _ h => h) (Or.inl ⟨by rfl, ?_⟩) (by assumption) ?_
        case refine_2 => (intro w hSw; (try dsimp only at hSw); clear hSw; go_simp <;> with_reducible rfl)
        simp only [Act.put, List.setIfInBounds_toArray, List.set_cons_zero, List.set_cons_succ]
        refine wpAnyH_take (i := 13) (v := ?_) (List.getElem?_toArray.trans rfl) (by kernel_rfl) (by kernel_rfl) (by kernel_rfl) (fun _ _ _ h => h) (Or.inl ⟨by rfl, ?_⟩) (by assumption) ?_
        case refine_2 => (intro w hSw; (try dsimp only at hSw); clear hSw; go_simp <;> with_reducible rfl)
        simp only [Act.put, List.setIfInBounds_toArray, List.set_cons_zero, List.set_cons_succ]
        refine wpAnyH_take (i := 14) (v := ?_) (List.getElem?_toArray.trans rfl) (by kernel_rfl) (by kernel_rfl) (by kernel_rfl) (fun _ _ _ h => h) (Or.inl ⟨by rfl, ?_⟩) (by assumption) ?_
        case refine_2 => (intro w hSw; (try dsimp only at hSw); clear hSw; go_simp <;> with_reducible rfl)
        simp only [Act.put, List.setIfInBounds_toArray, List.set_cons_zero, List.set_cons_succ]
        refine wpAnyH_take (i := 15) (v := .agg cs.toArray) (List.getElem?_toArray.trans rfl) (by kernel_rfl) (by kernel_rfl) (by kernel_rfl) (fun _ _ _ h => h) ?_ (by assumption) ?_
        · exact yieldsIf_load_mid (by rfl) 27 _ (by rfl) w3.heap.size 0 (by rfl) cs _ (fun _ h => h.1) Tryd.underlying27 (by rfl) hi1
        simp only [Act.put, List.setIfInBounds_toArray, List.set_cons_zero, List.set_cons_succ]
        refine wpAnyH_take (i := 16) (v := .agg ct.toArray) (List.getElem?_toArray.trans rfl) (by kernel_rfl) (by kernel_rfl) (by kernel_rfl) (fun _ _ _ h => h) ?_ (by assumption) ?_
        · exact yieldsIf_load_mid (by rfl) 27 _ (by rfl) (w3.heap.size + 1) 0 (by rfl) ct _ (fun _ h => h.2) Tryd.underlying27 (by rfl) hi2
        simp only [Act.put, List.setIfInBounds_toArray, List.set_cons_zero, List.set_cons_succ]
        refine wpAnyH_take (i := 18) (v := ?_) (List.getElem?_toArray.trans rfl) (by kernel_rfl) (by kernel_rfl) (by kernel_rfl) (fun _ _ _ h => h) (Or.inl ⟨by rfl, ?_⟩) (by assumption) ?_
        case refine_2 => (intro w hSw; (try dsimp only at hSw); clear hSw; go_simp <;> with_reducible rfl)
        simp only [Act.put, List.setIfInBounds_toArray, List.set_cons_zero, List.set_cons_succ]
        refine wpAnyH_take (i := 20) (v := .agg cs.toArray) (List.getElem?_toArray.trans rfl) (by kernel_rfl) (by kernel_rfl) (by kernel_rfl) (fun _ _ _ h => h) ?_ (by assumption) ?_
        · exact yieldsIf_load_mid (by rfl) 27 _ (by rfl) w3.heap.size 0 (by rfl) cs _ (fun _ h => h.1) Tryd.underlying27 (by rfl) hi1
        simp only [Act.put, List.setIfInBounds_toArray, List.set_cons_zero, List.set_cons_succ]
        refine wpAnyH_take (i := 21) (v := ?_) (List.getElem?_toArray.trans rfl) (by kernel_rfl) (by kernel_rfl) (by kernel_rfl) (fun _ _ _ h => h) (Or.inl ⟨by rfl, ?_⟩) (by assumption) ?_
        case refine_2 => (intro w hSw; (try dsimp only at hSw); clear hSw; go_simp <;> with_reducible rfl)
        simp only [Act.put, List.setIfInBounds_toArray, List.set_cons_zero, List.set_cons_succ]
        refine wpAnyH_ready (rs := [17]) (by kernel_rfl) (by simp) ?_
        refine AllReadyH.cons (List.getElem?_toArray.trans rfl) (fun K hK => ?_) AllReadyH.nil
        go_simp
        go_at_call 18; first | ((with_reducible refine (KAND1.out _).mono ?_); rintro e wn ⟨rfl, hbn⟩; replace HQ1 := Lib.hid (keep_map HQ1.out hbn); replace HQ2 := Lib.hid (keep_map HQ2.out hbn); have hP := And.intro HQ1.out.1 HQ2.out.1; replace HB := Lib.hid (HB.out.trans (hbn.mono HB.out.size)); clear hbn) | ((with_reducible refine (KAND2.out _).mono ?_); rintro e wn ⟨rfl, hbn⟩; replace HQ1 := Lib.hid (keep_map HQ1.out hbn); replace HQ2 := Lib.hid (keep_map HQ2.out hbn); have hP := And.intro HQ1.out.1 HQ2.out.1; replace HB := Lib.hid (HB.out.trans (hbn.mono HB.out.size)); clear hbn)
        refine hK.out _ _ hP (fun hHeld => ?_)
        clear hK K
        refine wpAnyH_ready (rs := [19]) (by kernel_rfl) (by simp) ?_
        refine AllReadyH.cons (List.getElem?_toArray.trans rfl) (fun K hK => ?_) AllReadyH.nil
        go_simp
        go_at_call 14; first | ((with_reducible refine (KH1.out _).mono ?_); rintro e wn ⟨rfl, hbn⟩; replace HQ1 := Lib.hid (keep_map HQ1.out hbn); replace HQ2 := Lib.hid (keep_map HQ2.out hbn); have hP := And.intro HQ1.out.1 HQ2.out.1; replace HB := Lib.hid (HB.out.trans (hbn.mono HB.out.size)); clear hbn) | ((with_reducible refine (KH2.out _).mono ?_); rintro e wn ⟨rfl, hbn⟩; replace HQ1 := Lib.hid (keep_map HQ1.out hbn); replace HQ2 := Lib.hid (keep_map HQ2.out hbn); have hP := And.intro HQ1.out.1 HQ2.out.1; replace HB := Lib.hid (HB.out.trans (hbn.mono HB.out.size)); clear hbn) | ((with_reducible refine (KHU.out _).mono ?_); rintro e wn ⟨rfl, hbn⟩; replace HQ1 := Lib.hid (keep_map HQ1.out hbn); replace HQ2 := Lib.hid (keep_map HQ2.out hbn); have hP := And.intro HQ1.out.1 HQ2.out.1; replace HB := Lib.hid (HB.out.trans (hbn.mono HB.out.size)); clear hbn) | ((with_reducible refine (KHA.out _).mono ?_); rintro e wn ⟨rfl, hbn⟩; replace HQ1 := Lib.hid (keep_map HQ1.out hbn); replace HQ2 := Lib.hid (keep_map HQ2.out hbn); have hP := And.intro HQ1.out.1 HQ2.out.1; replace HB := Lib.hid (HB.out.trans (hbn.mono HB.out.size)); clear hbn)
        refine hK.out _ _ hP (fun hHeld => ?_)
        clear hK K
        refine wpAnyH_ready (rs := [22]) (by kernel_rfl) (by simp) ?_
        refine AllReadyH.cons (List.getElem?_toArray.trans rfl) (fun K hK => ?_) AllReadyH.nil
        go_simp
        go_at_call 14; first | ((with_reducible refine (KH1.out _).mono ?_); rintro e wn ⟨rfl, hbn⟩; replace HQ1 := Lib.hid (keep_map HQ1.out hbn); replace HQ2 := Lib.hid (keep_map HQ2.out hbn); have hP := And.intro HQ1.out.1 HQ2.out.1; replace HB := Lib.hid (HB.out.trans (hbn.mono HB.out.size)); clear hbn) | ((with_reducible refine (KH2.out _).mono ?_); rintro e wn ⟨rfl, hbn⟩; replace HQ1 := Lib.hid (keep_map HQ1.out hbn); replace HQ2 := Lib.hid (keep_map HQ2.out hbn); have hP := And.intro HQ1.out.1 HQ2.out.1; replace HB := Lib.hid (HB.out.trans (hbn.mono HB.out.size)); clear hbn) | ((with_reducible refine (KHU.out _).mono ?_); rintro e wn ⟨rfl, hbn⟩; replace HQ1 := Lib.hid (keep_map HQ1.out hbn); replace HQ2 := Lib.hid (keep_map HQ2.out hbn); have hP := And.intro HQ1.out.1 HQ2.out.1; replace HB := Lib.hid (HB.out.trans (hbn.mono HB.out.size)); clear hbn) | ((with_reducible refine (KHA.out _).mono ?_); rintro e wn ⟨rfl, hbn⟩; replace HQ1 := Lib.hid (keep_map HQ1.out hbn); replace HQ2 := Lib.hid (keep_map HQ2.out hbn); have hP := And.intro HQ1.out.1 HQ2.out.1; replace HB := Lib.hid (HB.out.trans (hbn.mono HB.out.size)); clear hbn)
        refine hK.out _ _ hP (fun hHeld => ?_)
        clear hK K
        refine wpAnyH_take (i := 23) (v := ?_) (List.getElem?_toArray.trans rfl) (by kernel_rfl) (by kernel_rfl) (by kernel_rfl) (fun _ _ _ h => h) (Or.inl ⟨by rfl, ?_⟩) (by assumption) ?_
        case refine_2 => (intro w hSw; (try dsimp only at hSw); clear hSw; go_simp <;> with_reducible rfl)
        simp only [Act.put, List.setIfInBounds_toArray, List.set_cons_zero, List.set_cons_succ]
        refine wpAnyH_take (i := 24) (v := undef) (List.getElem?_toArray.trans rfl) (by kernel_rfl) (by kernel_rfl) (by kernel_rfl) (fun _ _ _ h => h) (Or.inr ⟨by rfl, rfl⟩) (by assumption) ?_
        simp only [Act.put, List.setIfInBounds_toArray, List.set_cons_zero, List.set_cons_succ]
        refine wpAnyH_take (i := 25) (v := undef) (List.getElem?_toArray.trans rfl) (by kernel_rfl) (by kernel_rfl) (by kernel_rfl) (fun _ _ _ h => h) (Or.inr ⟨by rfl, rfl⟩) (by assumption) ?_
        simp only [Act.put, List.setIfInBounds_toArray, List.set_cons_zero, List.set_cons_succ]
        refine wpAnyH_take (i := 26) (v := undef) (List.getElem?_toArray.trans rfl) (by kernel_rfl) (by kernel_rfl) (by kernel_rfl) (fun _ _ _ h => h) (Or.inr ⟨by rfl, rfl⟩) (by assumption) ?_
        simp only [Act.put, List.setIfInBounds_toArray, List.set_cons_zero, List.set_cons_succ]
        refine wpAnyH_take (i := 27) (v := ?_) (List.getElem?_toArray.trans rfl) (by kernel_rfl) (by kernel_rfl) (by kernel_rfl) (fun _ _ _ h => h) (Or.inl ⟨by rfl, ?_⟩) (by assumption) ?_
        case refine_2 => (intro w hSw; (try dsimp only at hSw); clear hSw; go_simp <;> with_reducible rfl)
        simp only [Act.put, List.setIfInBounds_toArray, List.set_cons_zero, List.set_cons_succ]
        refine wpAnyH_take (i := 28) (v := ?_) (List.getElem?_toArray.trans rfl) (by kernel_rfl) (by kernel_rfl) (by kernel_rfl) (fun _ _ _ h => h) (Or.inl ⟨by rfl, ?_⟩) (by assumption) ?_
        case refine_2 => (intro w hSw; (try dsimp only at hSw); clear hSw; go_simp <;> with_reducible rfl)
        simp only [Act.put, List.setIfInBounds_toArray, List.set_cons_zero, List.set_cons_succ]
        refine wpAnyH_take (i := 29) (v := ?_) (List.getElem?_toArray.trans rfl) (by kernel_rfl) (by kernel_rfl) (by kernel_rfl) (fun _ _ _ h => h) (Or.inl ⟨by rfl, ?_⟩) (by assumption) ?_
        case refine_2 => (intro w hSw; (try dsimp only at hSw); clear hSw; go_simp <;> with_reducible rfl)
        simp only [Act.put, List.setIfInBounds_toArray, List.set_cons_zero, List.set_cons_succ]
        refine wpAnyH_take (i := 30) (v := ?_) (List.getElem?_toArray.trans rfl) (by kernel_rfl) (by kernel_rfl) (by kernel_rfl) (fun _ _ _ h => h) (Or.inl ⟨by rfl, ?_⟩) (by assumption) ?_
        case refine_2 => (intro w hSw; (try dsimp only at hSw); clear hSw; go_simp <;> with_reducible rfl)
        simp only [Act.put, List.setIfInBounds_toArray, List.set_cons_zero, List.set_cons_succ]
        refine wpAnyH_take (i := 31) (v := .agg cs.toArray) (List.getElem?_toArray.trans rfl) (by kernel_rfl) (by kernel_rfl) (by kernel_rfl) (fun _ _ _ h => h) ?_ (by assumption) ?_
        · exact yieldsIf_load_mid (by rfl) 27 _ (by rfl) w3.heap.size 0 (by rfl) cs _ (fun _ h => h.1) Tryd.underlying27 (by rfl) hi1
        simp only [Act.put, List.setIfInBounds_toArray, List.set_cons_zero, List.set_cons_succ]
        refine wpAnyH_take (i := 32) (v := .agg ct.toArray) (List.getElem?_toArray.trans rfl) (by kernel_rfl) (by kernel_rfl) (by kernel_rfl) (fun _ _ _ h => h) ?_ (by assumption) ?_
        · exact yieldsIf_load_mid (by rfl) 27 _ (by rfl) (w3.heap.size + 1) 0 (by rfl) ct _ (fun _ h => h.2) Tryd.underlying27 (by rfl) hi2
        simp only [Act.put, List.setIfInBounds_toArray, List.set_cons_zero, List.set_cons_succ]
        refine wpAnyH_take (i := 34) (v := ?_) (List.getElem?_toArray.trans rfl) (by kernel_rfl) (by kernel_rfl) (by kernel_rfl) (fun _ _ _ h => h) (Or.inl ⟨by rfl, ?_⟩) (by assumption) ?_
        case refine_2 => (intro w hSw; (try dsimp only at hSw); clear hSw; go_simp <;> with_reducible rfl)
        simp only [Act.put, List.setIfInBounds_toArray, List.set_cons_zero, List.set_cons_succ]
        refine wpAnyH_ready (rs := [33]) (by kernel_rfl) (by simp) ?_
        refine AllReadyH.cons (List.getElem?_toArray.trans rfl) (fun K hK => ?_) AllReadyH.nil
        go_simp
        go_at_call 19; first | ((with_reducible refine (KW1.out _).mono ?_); rintro e wn ⟨rfl, hbn⟩; replace HQ1 := Lib.hid (keep_map HQ1.out hbn); replace HQ2 := Lib.hid (keep_map HQ2.out hbn); have hP := And.intro HQ1.out.1 HQ2.out.1; replace HB := Lib.hid (HB.out.trans (hbn.mono HB.out.size)); clear hbn) | ((with_reducible refine (KW2.out _).mono ?_); rintro e wn ⟨rfl, hbn⟩; replace HQ1 := Lib.hid (keep_map HQ1.out hbn); replace HQ2 := Lib.hid (keep_map HQ2.out hbn); have hP := And.intro HQ1.out.1 HQ2.out.1; replace HB := Lib.hid (HB.out.trans (hbn.mono HB.out.size)); clear hbn) | ((with_reducible refine (KW3.out _).mono ?_); rintro e wn ⟨rfl, hbn⟩; replace HQ1 := Lib.hid (keep_map HQ1.out hbn); replace HQ2 := Lib.hid (keep_map HQ2.out hbn); have hP := And.intro HQ1.out.1 HQ2.out.1; replace HB := Lib.hid (HB.out.trans (hbn.mono HB.out.size)); clear hbn)
        refine hK.out _ _ hP (fun hHeld => ?_)
        clear hK K
        refine wpAnyH_take (i := 35) (v := ?_) (List.getElem?_toArray.trans rfl) (by kernel_rfl) (by kernel_rfl) (by kernel_rfl) (fun _ _ _ h => h) (Or.inl ⟨by rfl, ?_⟩) (by assumption) ?_
        case refine_2 => (intro w hSw; (try dsimp only at hSw); clear hSw; go_simp <;> with_reducible rfl)
        simp only [Act.put, List.setIfInBounds_toArray, List.set_cons_zero, List.set_cons_succ]
        refine wpAnyH_take (i := 36) (v := ?_) (List.getElem?_toArray.trans rfl) (by kernel_rfl) (by kernel_rfl) (by kernel_rfl) (fun _ _ _ h => h) (Or.inl ⟨by rfl, ?_⟩) (by assumption) ?_
        case refine_2 => (intro w hSw; (try dsimp only at hSw); clear hSw; go_simp <;> with_reducible rfl)
        simp only [Act.put, List.setIfInBounds_toArray, List.set_cons_zero, List.set_cons_succ]
        refine wpAnyH_take (i := 37) (v := ?_) (List.getElem?_toArray.trans rfl) (by kernel_rfl) (by kernel_rfl) (by kernel_rfl) (fun _ _ _ h => h) (Or.inl ⟨by rfl, ?_⟩) (by assumption) ?_
        case refine_2 => (intro w hSw; (try dsimp only at hSw); clear hSw; go_simp <;> with_reducible rfl)
        simp only [Act.put, List.setIfInBounds_toArray, List.set_cons_zero, List.set_cons_succ]
        refine wpAnyH_take (i := 38) (v := .agg cs.toArray) (List.getElem?_toArray.trans rfl) (by kernel_rfl) (by kernel_rfl) (by kernel_rfl) (fun _ _ _ h => h) ?_ (by assumption) ?_
        · exact yieldsIf_load_mid (by rfl) 27 _ (by rfl) w3.heap.size 0 (by rfl) cs _ (fun _ h => h.1) Tryd.underlying27 (by rfl) hi1
        simp only [Act.put, List.setIfInBounds_toArray, List.set_cons_zero, List.set_cons_succ]
        refine wpAnyH_take (i := 39) (v := .agg ct.toArray) (List.getElem?_toArray.trans rfl) (by kernel_rfl) (by kernel_rfl) (by kernel_rfl) (fun _ _ _ h => h) ?_ (by assumption) ?_
        · exact yieldsIf_load_mid (by rfl) 27 _ (by rfl) (w3.heap.size + 1) 0 (by rfl) ct _ (fun _ h => h.2) Tryd.underlying27 (by rfl) hi2
        simp only [Act.put, List.setIfInBounds_toArray, List.set_cons_zero, List.set_cons_succ]
        refine wpAnyH_take (i := 41) (v := .agg ct.toArray) (List.getElem?_toArray.trans rfl) (by kernel_rfl) (by kernel_rfl) (by kernel_rfl) (fun _ _ _ h => h) ?_ (by assumption) ?_
        · exact yieldsIf_load_mid (by rfl) 27 _ (by rfl) (w3.heap.size + 1) 0 (by rfl) ct _ (fun _ h => h.2) Tryd.underlying27 (by rfl) hi2
        simp only [Act.put, List.setIfInBounds_toArray, List.set_cons_zero, List.set_cons_succ]
        refine wpAnyH_take (i := 42) (v := .agg cs.toArray) (List.getElem?_toArray.trans rfl) (by kernel_rfl) (by kernel_rfl) (by kernel_rfl) (fun _ _ _ h => h) ?_ (by assumption) ?_
        · exact yieldsIf_load_mid (by rfl) 27 _ (by rfl) w3.heap.size 0 (by rfl) cs _ (fun _ h => h.1) Tryd.underlying27 (by rfl) hi1
        simp only [Act.put, List.setIfInBounds_toArray, List.set_cons_zero, List.set_cons_succ]
        refine wpAnyH_ready (rs := [40]) (by kernel_rfl) (by simp) ?_
        refine AllReadyH.cons (List.getElem?_toArray.trans rfl) (fun K hK => ?_) AllReadyH.nil
        go_simp
        go_at_call 17; first | ((with_reducible refine (KOR1.out _).mono ?_); rintro e wn ⟨rfl, hbn⟩; replace HQ1 := Lib.hid (keep_map HQ1.out hbn); replace HQ2 := Lib.hid (keep_map HQ2.out hbn); have hP := And.intro HQ1.out.1 HQ2.out.1; replace HB := Lib.hid (HB.out.trans (hbn.mono HB.out.size)); clear hbn) | ((with_reducible refine (KOR2.out _).mono ?_); rintro e wn ⟨rfl, hbn⟩; replace HQ1 := Lib.hid (keep_map HQ1.out hbn); replace HQ2 := Lib.hid (keep_map HQ2.out hbn); have hP := And.intro HQ1.out.1 HQ2.out.1; replace HB := Lib.hid (HB.out.trans (hbn.mono HB.out.size)); clear hbn)
        refine hK.out _ _ hP (fun hHeld => ?_)
        clear hK K
        refine wpAnyH_ready (rs := [43]) (by kernel_rfl) (by simp) ?_
        refine AllReadyH.cons (List.getElem?_toArray.trans rfl) (fun K hK => ?_) AllReadyH.nil
        go_simp
        go_at_call 17; first | ((with_reducible refine (KOR1.out _).mono ?_); rintro e wn ⟨rfl, hbn⟩; replace HQ1 := Lib.hid (keep_map HQ1.out hbn); replace HQ2 := Lib.hid (keep_map HQ2.out hbn); have hP := And.intro HQ1.out.1 HQ2.out.1; replace HB := Lib.hid (HB.out.trans (hbn.mono HB.out.size)); clear hbn) | ((with_reducible refine (KOR2.out _).mono ?_); rintro e wn ⟨rfl, hbn⟩; replace HQ1 := Lib.hid (keep_map HQ1.out hbn); replace HQ2 := Lib.hid (keep_map HQ2.out hbn); have hP := And.intro HQ1.out.1 HQ2.out.1; replace HB := Lib.hid (HB.out.trans (hbn.mono HB.out.size)); clear hbn)
        refine hK.out _ _ hP (fun hHeld => ?_)
        clear hK K
        refine wpAnyH_take (i := 44) (v := ?_) (List.getElem?_toArray.trans rfl) (by kernel_rfl) (by kernel_rfl) (by kernel_rfl) (fun _ _ _ h => h) (Or.inl ⟨by rfl, ?_⟩) (by assumption) ?_
        case refine_2 => (intro w hSw; (try dsimp only at hSw); clear hSw; go_simp <;> with_reducible rfl)
        simp only [Act.put, List.setIfInBounds_toArray, List.set_cons_zero, List.set_cons_succ]
        refine wpAnyH_take (i := 45) (v := ?_) (List.getElem?_toArray.trans rfl) (by kernel_rfl) (by kernel_rfl) (by kernel_rfl) (fun _ _ _ h => h) (Or.inl ⟨by rfl, ?_⟩) (by assumption) ?_
        case refine_2 => (intro w hSw; (try dsimp only at hSw); clear hSw; go_simp <;> with_reducible rfl)
        simp only [Act.put, List.setIfInBounds_toArray, List.set_cons_zero, List.set_cons_succ]
        refine wpAnyH_take (i := 46) (v := ?_) (List.getElem?_toArray.trans rfl) (by kernel_rfl) (by kernel_rfl) (by kernel_rfl) (fun _ _ _ h => h) (Or.inl ⟨by rfl, ?_⟩) (by assumption) ?_
        case refine_2 => (intro w hSw; (try dsimp only at hSw); clear hSw; go_simp <;> with_reducible rfl)
        simp only [Act.put, List.setIfInBounds_toArray, List.set_cons_zero, List.set_cons_succ]
        refine wpAnyH_take (i := 47) (v := .agg cs.toArray) (List.getElem?_toArray.trans rfl) (by kernel_rfl) (by kernel_rfl) (by kernel_rfl) (fun _ _ _ h => h) ?_ (by assumption) ?_
        · exact yieldsIf_load_mid (by rfl) 27 _ (by rfl) w3.heap.size 0 (by rfl) cs _ (fun _ h => h.1) Tryd.underlying27 (by rfl) hi1
        simp only [Act.put, List.setIfInBounds_toArray, List.set_cons_zero, List.set_cons_succ]
        refine wpAnyH_take (i := 48) (v := .agg ct.toArray) (List.getElem?_toArray.trans rfl) (by kernel_rfl) (by kernel_rfl) (by kernel_rfl) (fun _ _ _ h => h) ?_ (by assumption) ?_
        · exact yieldsIf_load_mid (by rfl) 27 _ (by rfl) (w3.heap.size + 1) 0 (by rfl) ct _ (fun _ h => h.2) Tryd.underlying27 (by rfl) hi2
        simp only [Act.put, List.setIfInBounds_toArray, List.set_cons_zero, List.set_cons_succ]
        refine wpAnyH_take (i := 50) (v := .agg ct.toArray) (List.getElem?_toArray.trans rfl) (by kernel_rfl) (by kernel_rfl) (by kernel_rfl) (fun _ _ _ h => h) ?_ (by assumption) ?_
        · exact yieldsIf_load_mid (by rfl) 27 _ (by rfl) (w3.heap.size + 1) 0 (by rfl) ct _ (fun _ h => h.2) Tryd.underlying27 (by rfl) hi2
        simp only [Act.put, List.setIfInBounds_toArray, List.set_cons_zero, List.set_cons_succ]
        refine wpAnyH_take (i := 51) (v := .agg cs.toArray) (List.getElem?_toArray.trans rfl) (by kernel_rfl) (by kernel_rfl) (by kernel_rfl) (fun _ _ _ h => h) ?_ (by assumption) ?_
        · exact yieldsIf_load_mid (by rfl) 27 _ (by rfl) w3.heap.size 0 (by rfl) cs _ (fun _ h => h.1) Tryd.underlying27 (by rfl) hi1
        simp only [Act.put, List.setIfInBounds_toArray, List.set_cons_zero, List.set_cons_succ]
        refine wpAnyH_ready (rs := [49]) (by kernel_rfl) (by simp) ?_
        refine AllReadyH.cons (List.getElem?_toArray.trans rfl) (fun K hK => ?_) AllReadyH.nil
        go_simp
        go_at_call 18; first | ((with_reducible refine (KAND1.out _).mono ?_); rintro e wn ⟨rfl, hbn⟩; replace HQ1 := Lib.hid (keep_map HQ1.out hbn); replace HQ2 := Lib.hid (keep_map HQ2.out hbn); have hP := And.intro HQ1.out.1 HQ2.out.1; replace HB := Lib.hid (HB.out.trans (hbn.mono HB.out.size)); clear hbn) | ((with_reducible refine (KAND2.out _).mono ?_); rintro e wn ⟨rfl, hbn⟩; replace HQ1 := Lib.hid (keep_map HQ1.out hbn); replace HQ2 := Lib.hid (keep_map HQ2.out hbn); have hP := And.intro HQ1.out.1 HQ2.out.1; replace HB := Lib.hid (HB.out.trans (hbn.mono HB.out.size)); clear hbn)
        refine hK.out _ _ hP (fun hHeld => ?_)
        clear hK K
        refine wpAnyH_ready (rs := [52]) (by kernel_rfl) (by simp) ?_
        refine AllReadyH.cons (List.getElem?_toArray.trans rfl) (fun K hK => ?_) AllReadyH.nil
        go_simp
        go_at_call 18; first | ((with_reducible refine (KAND1.out _).mono ?_); rintro e wn ⟨rfl, hbn⟩; replace HQ1 := Lib.hid (keep_map HQ1.out hbn); replace HQ2 := Lib.hid (keep_map HQ2.out hbn); have hP := And.intro HQ1.out.1 HQ2.out.1; replace HB := Lib.hid (HB.out.trans (hbn.mono HB.out.size)); clear hbn) | ((with_reducible refine (KAND2.out _).mono ?_); rintro e wn ⟨rfl, hbn⟩; replace HQ1 := Lib.hid (keep_map HQ1.out hbn); replace HQ2 := Lib.hid (keep_map HQ2.out hbn); have hP := And.intro HQ1.out.1 HQ2.out.1; replace HB := Lib.hid (HB.out.trans (hbn.mono HB.out.size)); clear hbn)
        refine hK.out _ _ hP (fun hHeld => ?_)
        clear hK K
        refine wpAnyH_take (i := 53) (v := ?_) (List.getElem?_toArray.trans rfl) (by kernel_rfl) (by kernel_rfl) (by kernel_rfl) (fun _ _ _ h => h) (Or.inl ⟨by rfl, ?_⟩) (by assumption) ?_
        case refine_2 => (intro w hSw; (try dsimp only at hSw); clear hSw; go_simp <;> with_reducible rfl)
        simp only [Act.put, List.setIfInBounds_toArray, List.set_cons_zero, List.set_cons_succ]
        refine wpAnyH_take (i := 54) (v := ?_) (List.getElem?_toArray.trans rfl) (by kernel_rfl) (by kernel_rfl) (by kernel_rfl) (fun _ _ _ h => h) (Or.inl ⟨by rfl, ?_⟩) (by assumption) ?_
        case refine_2 => (intro w hSw; (try dsimp only at hSw); clear hSw; go_simp <;> with_reducible rfl)
        simp only [Act.put, List.setIfInBounds_toArray, List.set_cons_zero, List.set_cons_succ]
        refine wpAnyH_take (i := 55) (v := ?_) (List.getElem?_toArray.trans rfl) (by kernel_rfl) (by kernel_rfl) (by kernel_rfl) (fun _ _ _ h => h) (Or.inl ⟨by rfl, ?_⟩) (by assumption) ?_
        case refine_2 => (intro w hSw; (try dsimp only at hSw); clear hSw; go_simp <;> with_reducible rfl)
        simp only [Act.put, List.setIfInBounds_toArray, List.set_cons_zero, List.set_cons_succ]
        refine wpAnyH_take (i := 56) (v := .agg cs.toArray) (List.getElem?_toArray.trans rfl) (by kernel_rfl) (by kernel_rfl) (by kernel_rfl) (fun _ _ _ h => h) ?_ (by assumption) ?_
        · exact yieldsIf_load_mid (by rfl) 27 _ (by rfl) w3.heap.size 0 (by rfl) cs _ (fun _ h => h.1) Tryd.underlying27 (by rfl) hi1
        simp only [Act.put, List.setIfInBounds_toArray, List.set_cons_zero, List.set_cons_succ]
        refine wpAnyH_take (i := 57) (v := .agg ct.toArray) (List.getElem?_toArray.trans rfl) (by kernel_rfl) (by kernel_rfl) (by kernel_rfl) (fun _ _ _ h => h) ?_ (by assumption) ?_
        · exact yieldsIf_load_mid (by rfl) 27 _ (by rfl) (w3.heap.size + 1) 0 (by rfl) ct _ (fun _ h => h.2) Tryd.underlying27 (by rfl) hi2
        simp only [Act.put, List.setIfInBounds_toArray, List.set_cons_zero, List.set_cons_succ]
        refine wpAnyH_take (i := 59) (v := .agg cs.toArray) (List.getElem?_toArray.trans rfl) (by kernel_rfl) (by kernel_rfl) (by kernel_rfl) (fun _ _ _ h => h) ?_ (by assumption) ?_
        · exact yieldsIf_load_mid (by rfl) 27 _ (by rfl) w3.heap.size 0 (by rfl) cs _ (fun _ h => h.1) Tryd.underlying27 (by rfl) hi1
        simp only [Act.put, List.setIfInBounds_toArray, List.set_cons_zero, List.set_cons_succ]
        refine wpAnyH_ready (rs := [58]) (by kernel_rfl) (by simp) ?_
        refine AllReadyH.cons (List.getElem?_toArray.trans rfl) (fun K hK => ?_) AllReadyH.nil
        go_simp
        go_at_call 18; first | ((with_reducible refine (KAND1.out _).mono ?_); rintro e wn ⟨rfl, hbn⟩; replace HQ1 := Lib.hid (keep_map HQ1.out hbn); replace HQ2 := Lib.hid (keep_map HQ2.out hbn); have hP := And.intro HQ1.out.1 HQ2.out.1; replace HB := Lib.hid (HB.out.trans (hbn.mono HB.out.size)); clear hbn) | ((with_reducible refine (KAND2.out _).mono ?_); rintro e wn ⟨rfl, hbn⟩; replace HQ1 := Lib.hid (keep_map HQ1.out hbn); replace HQ2 := Lib.hid (keep_map HQ2.out hbn); have hP := And.intro HQ1.out.1 HQ2.out.1; replace HB := Lib.hid (HB.out.trans (hbn.mono HB.out.size)); clear hbn)
        refine hK.out _ _ hP (fun hHeld => ?_)
        clear hK K
        refine wpAnyH_ready (rs := [60]) (by kernel_rfl) (by simp) ?_
        refine AllReadyH.cons (List.getElem?_toArray.trans rfl) (fun K hK => ?_) AllReadyH.nil
        go_simp
        go_at_call 19; first | ((with_reducible refine (KW1.out _).mono ?_); rintro e wn ⟨rfl, hbn⟩; replace HQ1 := Lib.hid (keep_map HQ1.out hbn); replace HQ2 := Lib.hid (keep_map HQ2.out hbn); have hP := And.intro HQ1.out.1 HQ2.out.1; replace HB := Lib.hid (HB.out.trans (hbn.mono HB.out.size)); clear hbn) | ((with_reducible refine (KW2.out _).mono ?_); rintro e wn ⟨rfl, hbn⟩; replace HQ1 := Lib.hid (keep_map HQ1.out hbn); replace HQ2 := Lib.hid (keep_map HQ2.out hbn); have hP := And.intro HQ1.out.1 HQ2.out.1; replace HB := Lib.hid (HB.out.trans (hbn.mono HB.out.size)); clear hbn) | ((with_reducible refine (KW3.out _).mono ?_); rintro e wn ⟨rfl, hbn⟩; replace HQ1 := Lib.hid (keep_map HQ1.out hbn); replace HQ2 := Lib.hid (keep_map HQ2.out hbn); have hP := And.intro HQ1.out.1 HQ2.out.1; replace HB := Lib.hid (HB.out.trans (hbn.mono HB.out.size)); clear hbn)
        refine hK.out _ _ hP (fun hHeld => ?_)
        clear hK K
        refine wpAnyH_take (i := 61) (v := ?_) (List.getElem?_toArray.trans rfl) (by kernel_rfl) (by kernel_rfl) (by kernel_rfl) (fun _ _ _ h => h) (Or.inl ⟨by rfl, ?_⟩) (by assumption) ?_
        case refine_2 => (intro w hSw; (try dsimp only at hSw); clear hSw; go_simp <;> with_reducible rfl)
        simp only [Act.put, List.setIfInBounds_toArray, List.set_cons_zero, List.set_cons_succ]
        refine wpAnyH_take (i := 62) (v := ?_) (List.getElem?_toArray.trans rfl) (by kernel_rfl) (by kernel_rfl) (by kernel_rfl) (fun _ _ _ h => h) (Or.inl ⟨by rfl, ?_⟩) (by assumption) ?_
        case refine_2 => (intro w hSw; (try dsimp only at hSw); clear hSw; go_simp <;> with_reducible rfl)
        simp only [Act.put, List.setIfInBounds_toArray, List.set_cons_zero, List.set_cons_succ]
        refine wpAnyH_take (i := 63) (v := .agg cs.toArray) (List.getElem?_toArray.trans rfl) (by kernel_rfl) (by kernel_rfl) (by kernel_rfl) (fun _ _ _ h => h) ?_ (by assumption) ?_
        · exact yieldsIf_load_mid (by rfl) 27 _ (by rfl) w3.heap.size 0 (by rfl) cs _ (fun _ h => h.1) Tryd.underlying27 (by rfl) hi1
        simp only [Act.put, List.setIfInBounds_toArray, List.set_cons_zero, List.set_cons_succ]
        refine wpAnyH_take (i := 64) (v := .agg cs.toArray) (List.getElem?_toArray.trans rfl) (by kernel_rfl) (by kernel_rfl) (by kernel_rfl) (fun _ _ _ h => h) ?_ (by assumption) ?_
        · exact yieldsIf_load_mid (by rfl) 27 _ (by rfl) w3.heap.size 0 (by rfl) cs _ (fun _ h => h.1) Tryd.underlying27 (by rfl) hi1
        simp only [Act.put, List.setIfInBounds_toArray, List.set_cons_zero, List.set_cons_succ]
        refine wpAnyH_take (i := 65) (v := .agg ct.toArray) (List.getElem?_toArray.trans rfl) (by kernel_rfl) (by kernel_rfl) (by kernel_rfl) (fun _ _ _ h => h) ?_ (by assumption) ?_
        · exact yieldsIf_load_mid (by rfl) 27 _ (by rfl) (w3.heap.size + 1) 0 (by rfl) ct _ (fun _ h => h.2) Tryd.underlying27 (by rfl) hi2
        simp only [Act.put, List.setIfInBounds_toArray, List.set_cons_zero, List.set_cons_succ]
        refine wpAnyH_ready (rs := [66]) (by kernel_rfl) (by simp) ?_
        refine AllReadyH.cons (List.getElem?_toArray.trans rfl) (fun K hK => ?_) AllReadyH.nil
        go_simp
        go_at_call 17; first | ((with_reducible refine (KOR1.out _).mono ?_); rintro e wn ⟨rfl, hbn⟩; replace HQ1 := Lib.hid (keep_map HQ1.out hbn); replace HQ2 := Lib.hid (keep_map HQ2.out hbn); have hP := And.intro HQ1.out.1 HQ2.out.1; replace HB := Lib.hid (HB.out.trans (hbn.mono HB.out.size)); clear hbn) | ((with_reducible refine (KOR2.out _).mono ?_); rintro e wn ⟨rfl, hbn⟩; replace HQ1 := Lib.hid (keep_map HQ1.out hbn); replace HQ2 := Lib.hid (keep_map HQ2.out hbn); have hP := And.intro HQ1.out.1 HQ2.out.1; replace HB := Lib.hid (HB.out.trans (hbn.mono HB.out.size)); clear hbn)
        refine hK.out _ _ hP (fun hHeld => ?_)
        clear hK K
        refine wpAnyH_ready (rs := [67]) (by kernel_rfl) (by simp) ?_
        refine AllReadyH.cons (List.getElem?_toArray.trans rfl) (fun K hK => ?_) AllReadyH.nil
        go_simp
        go_at_call 19; first | ((with_reducible refine (KW1.out _).mono ?_); rintro e wn ⟨rfl, hbn⟩; replace HQ1 := Lib.hid (keep_map HQ1.out hbn); replace HQ2 := Lib.hid (keep_map HQ2.out hbn); have hP := And.intro HQ1.out.1 HQ2.out.1; replace HB := Lib.hid (HB.out.trans (hbn.mono HB.out.size)); clear hbn) | ((with_reducible refine (KW2.out _).mono ?_); rintro e wn ⟨rfl, hbn⟩; replace HQ1 := Lib.hid (keep_map HQ1.out hbn); replace HQ2 := Lib.hid (keep_map HQ2.out hbn); have hP := And.intro HQ1.out.1 HQ2.out.1; replace HB := Lib.hid (HB.out.trans (hbn.mono HB.out.size)); clear hbn) | ((with_reducible refine (KW3.out _).mono ?_); rintro e wn ⟨rfl, hbn⟩; replace HQ1 := Lib.hid (keep_map HQ1.out hbn); replace HQ2 := Lib.hid (keep_map HQ2.out hbn); have hP := And.intro HQ1.out.1 HQ2.out.1; replace HB := Lib.hid (HB.out.trans (hbn.mono HB.out.size)); clear hbn)
        refine hK.out _ _ hP (fun hHeld => ?_)
        clear hK K
        refine wpAnyH_take (i := 68) (v := ?_) (List.getElem?_toArray.trans rfl) (by kernel_rfl) (by kernel_rfl) (by kernel_rfl) (fun _ _ _ h => h) (Or.inl ⟨by rfl, ?_⟩) (by assumption) ?_
        case refine_2 => (intro w hSw; (try dsimp only at hSw); clear hSw; go_simp <;> with_reducible rfl)
        simp only [Act.put, List.setIfInBounds_toArray, List.set_cons_zero, List.set_cons_succ]
        refine wpAnyH_take (i := 69) (v := ?_) (List.getElem?_toArray.trans rfl) (by kernel_rfl) (by kernel_rfl) (by kernel_rfl) (fun _ _ _ h => h) (Or.inl ⟨by rfl, ?_⟩) (by assumption) ?_
        case refine_2 => (intro w hSw; (try dsimp only at hSw); clear hSw; go_simp <;> with_reducible rfl)
        simp only [Act.put, List.setIfInBounds_toArray, List.set_cons_zero, List.set_cons_succ]
        refine wpAnyH_done (by kernel_rfl) ?_ _
        go_wp2
        go_ret
        exact ⟨rfl, HB.out⟩
      · simp only [Bool.true_or, Bool.true_and] at KHU KHA
        go_wp2
        simp only [List.append_eq, List.cons_append, List.nil_append]
        refine wp_region_held_drew (S := (fun W => W.rangeAt w3.heap.size 0 cs ∧ W.rangeAt (w3.heap.size + 1) 0 ct)) (by kernel_rfl) hP (fun hHeld => ?_)
        refine wpAnyH_take (i := 0) (v := .agg cs.toArray) (List.getElem?_toArray.trans rfl) (by kernel_rfl) (by kernel_rfl) (by kernel_rfl) (fun _ _ _ h => h) ?_ (by assumption) ?_
        · exact yieldsIf_load_mid (by rfl) 27 _ (by rfl) w3.heap.size 0 (by rfl) cs _ (fun _ h => h.1) Tryd.underlying27 (by rfl) hi1
        simp only [Act.put, List.setIfInBounds_toArray, List.set_cons_zero, List.set_cons_succ]
        refine wpAnyH_take (i := 1) (v := .agg ct.toArray) (List.getElem?_toArray.trans rfl) (by kernel_rfl) (by kernel_rfl) (by kernel_rfl) (fun _ _ _ h => h) ?_ (by assumption) ?_
        · exact yieldsIf_load_mid (by rfl) 27 _ (by rfl) (w3.heap.size + 1) 0 (by rfl) ct _ (fun _ h => h.2) Tryd.underlying27 (by rfl) hi2
        simp only [Act.put, List.setIfInBounds_toArray, List.set_cons_zero, List.set_cons_succ]
        refine wpAnyH_take (i := 3) (v := ?_) (List.getElem?_toArray.trans rfl) (by kernel_rfl) (by kernel_rfl) (by kernel_rfl) (fun _ _ _ h => h) (Or.inl ⟨by rfl, ?_⟩) (by assumption) ?_
        case refine_2 => (intro w hSw; (try dsimp only at hSw); clear hSw; go_simp <;> with_reducible rfl)
        simp only [Act.put, List.setIfInBounds_toArray, List.set_cons_zero, List.set_cons_succ]
        refine wpAnyH_take (i := 5) (v := .agg cs.toArray) (List.getElem?_toArray.trans rfl) (by kernel_rfl) (by kernel_rfl) (by kernel_rfl) (fun _ _ _ h => h) ?_ (by assumption) ?_
        · exact yieldsIf_load_mid (by rfl) 27 _ (by rfl) w3.heap.size 0 (by rfl) cs _ (fun _ h => h.1) Tryd.underlying27 (by rfl) hi1
        simp only [Act.put, List.setIfInBounds_toArray, List.set_cons_zero, List.set_cons_succ]
        refine wpAnyH_take (i := 6) (v := ?_) (List.getElem?_toArray.trans rfl) (by kernel_rfl) (by kernel_rfl) (by kernel_rfl) (fun _ _ _ h => h) (Or.inl ⟨by rfl, ?_⟩) (by assumption) ?_
        case refine_2 => (intro w hSw; (try dsimp only at hSw); clear hSw; go_simp <;> with_reducible rfl)
        simp only [Act.put, List.setIfInBounds_toArray, List.set_cons_zero, List.set_cons_succ]
        refine wpAnyH_ready (rs := [2]) (by kernel_rfl) (by simp) ?_
        refine AllReadyH.cons (List.getElem?_toArray.trans rfl) (fun K hK => ?_) AllReadyH.nil
        go_simp
        go_at_call 17; first | ((with_reducible refine (KOR1.out _).mono ?_); rintro e wn ⟨rfl, hbn⟩; replace HQ1 := Lib.hid (keep_map HQ1.out hbn); replace HQ2 := Lib.hid (keep_map HQ2.out hbn); have hP := And.intro HQ1.out.1 HQ2.out.1; replace HB := Lib.hid (HB.out.trans (hbn.mono HB.out.size)); clear hbn) | ((with_reducible refine (KOR2.out _).mono ?_); rintro e wn ⟨rfl, hbn⟩; replace HQ1 := Lib.hid (keep_map HQ1.out hbn); replace HQ2 := Lib.hid (keep_map HQ2.out hbn); have hP := And.intro HQ1.out.1 HQ2.out.1; replace HB := Lib.hid (HB.out.trans (hbn.mono HB.out.size)); clear hbn)
        refine hK.out _ _ hP (fun hHeld => ?_)
        clear hK K
        refine wpAnyH_ready (rs := [4]) (by kernel_rfl) (by simp) ?_
        refine AllReadyH.cons (List.getElem?_toArray.trans rfl) (fun K hK => ?_) AllReadyH.nil
        go_simp
        go_at_call 14; first | ((with_reducible refine (KH1.out _).mono ?_); rintro e wn ⟨rfl, hbn⟩; replace HQ1 := Lib.hid (keep_map HQ1.out hbn); replace HQ2 := Lib.hid (keep_map HQ2.out hbn); have hP := And.intro HQ1.out.1 HQ2.out.1; replace HB := Lib.hid (HB.out.trans (hbn.mono HB.out.size)); clear hbn) | ((with_reducible refine (KH2.out _).mono ?_); rintro e wn ⟨rfl, hbn⟩; replace HQ1 := Lib.hid (keep_map HQ1.out hbn); replace HQ2 := Lib.hid (keep_map HQ2.out hbn); have hP := And.intro HQ1.out.1 HQ2.out.1; replace HB := Lib.hid (HB.out.trans (hbn.mono HB.out.size)); clear hbn) | ((with_reducible refine (KHU.out _).mono ?_); rintro e wn ⟨rfl, hbn⟩; replace HQ1 := Lib.hid (keep_map HQ1.out hbn); replace HQ2 := Lib.hid (keep_map HQ2.out hbn); have hP := And.intro HQ1.out.1 HQ2.out.1; replace HB := Lib.hid (HB.out.trans (hbn.mono HB.out.size)); clear hbn) | ((with_reducible refine (KHA.out _).mono ?_); rintro e wn ⟨rfl, hbn⟩; replace HQ1 := Lib.hid (keep_map HQ1.out hbn); replace HQ2 := Lib.hid (keep_map HQ2.out hbn); have hP := And.intro HQ1.out.1 HQ2.out.1; replace HB := Lib.hid (HB.out.trans (hbn.mono HB.out.size)); clear hbn)
        refine hK.out _ _ hP (fun hHeld => ?_)
        clear hK K
        refine wpAnyH_ready (rs := [7]) (by kernel_rfl) (by simp) ?_
        refine AllReadyH.cons (List.getElem?_toArray.trans rfl) (fun K hK => ?_) AllReadyH.nil
        go_simp
        go_at_call 14; first | ((with_reducible refine (KH1.out _).mono ?_); rintro e wn ⟨rfl, hbn⟩; replace HQ1 := Lib.hid (keep_map HQ1.out hbn); replace HQ2 := Lib.hid (keep_map HQ2.out hbn); have hP := And.intro HQ1.out.1 HQ2.out.1; replace HB := Lib.hid (HB.out.trans (hbn.mono HB.out.size)); clear hbn) | ((with_reducible refine (KH2.out _).mono ?_); rintro e wn ⟨rfl, hbn⟩; replace HQ1 := Lib.hid (keep_map HQ1.out hbn); replace HQ2 := Lib.hid (keep_map HQ2.out hbn); have hP := And.intro HQ1.out.1 HQ2.out.1; replace HB := Lib.hid (HB.out.trans (hbn.mono HB.out.size)); clear hbn) | ((with_reducible refine (KHU.out _).mono ?_); rintro e wn ⟨rfl, hbn⟩; replace HQ1 := Lib.hid (keep_map HQ1.out hbn); replace HQ2 := Lib.hid (keep_map HQ2.out hbn); have hP := And.intro HQ1.out.1 HQ2.out.1; replace HB := Lib.hid (HB.out.trans (hbn.mono HB.out.size)); clear hbn) | ((with_reducible refine (KHA.out _).mono ?_); rintro e wn ⟨rfl, hbn⟩; replace HQ1 := Lib.hid (keep_map HQ1.out hbn); replace HQ2 := Lib.hid (keep_map HQ2.out hbn); have hP := And.intro HQ1.out.1 HQ2.out.1; replace HB := Lib.hid (HB.out.trans (hbn.mono HB.out.size)); clear hbn)
        refine hK.out _ _ hP (fun hHeld => ?_)
        clear hK K
        refine wpAnyH_take (i := 8) (v := ?_) (List.getElem?_toArray.trans rfl) (by kernel_rfl) (by kernel_rfl) (by kernel_rfl) (fun _ _ _ h => h) (Or.inl ⟨by rfl, ?_⟩) (by assumption) ?_
        case refine_2 => (intro w hSw; (try dsimp only at hSw); clear hSw; go_simp <;> with_reducible rfl)
        simp only [Act.put, List.setIfInBounds_toArray, List.set_cons_zero, List.set_cons_succ]
        refine wpAnyH_take (i := 9) (v := undef) (List.getElem?_toArray.trans rfl) (by kernel_rfl) (by kernel_rfl) (by kernel_rfl) (fun _ _ _ h => h) (Or.inr ⟨by rfl, rfl⟩) (by assumption) ?_
        simp only [Act.put, List.setIfInBounds_toArray, List.set_cons_zero, List.set_cons_succ]
        refine wpAnyH_take (i := 10) (v := undef) (List.getElem?_toArray.trans rfl) (by kernel_rfl) (by kernel_rfl) (by kernel_rfl) (fun _ _ _ h => h) (Or.inr ⟨by rfl, rfl⟩) (by assumption) ?_
        simp only [Act.put, List.setIfInBounds_toArray, List.set_cons_zero, List.set_cons_succ]
        refine wpAnyH_take (i := 11) (v := undef) (List.getElem?_toArray.trans rfl) (by kernel_rfl) (by kernel_rfl) (by kernel_rfl) (fun _ _ _ h => h) (Or.inr ⟨by rfl, rfl⟩) (by assumption) ?_
        simp only [Act.put, List.setIfInBounds_toArray, List.set_cons_zero, List.set_cons_succ]
        refine wpAnyH_take (i := 12) (v := ?_) (List.getElem?_toArray.trans rfl) (by kernel_rfl) (by kernel_rfl) (by kernel_rfl) (fun _ _ _ h => h) (Or.inl ⟨by rfl, ?_⟩) (by assumption) ?_
        case refine_2 => (intro w hSw; (try dsimp only at hSw); clear hSw; go_simp <;> with_reducible rfl)
        simp only [Act.put, List.setIfInBounds_toArray, List.set_cons_zero, List.set_cons_succ]
        refine wpAnyH_take (i := 13) (v := ?_) (List.getElem?_toArray.trans rfl) (by kernel_rfl) (by kernel_rfl) (by kernel_rfl) (fun _ _ _ h => h) (Or.inl ⟨by rfl, ?_⟩) (by assumption) ?_
        case refine_2 => (intro w hSw; (try dsimp only at hSw); clear hSw; go_simp <;> with_reducible rfl)
        simp only [Act.put, List.setIfInBounds_toArray, List.set_cons_zero, List.set_cons_succ]
        refine wpAnyH_take (i := 14) (v := ?_) (List.getElem?_toArray.trans rfl) (by kernel_rfl) (by kernel_rfl) (by kernel_rfl) (fun _ _ _ h => h) (Or.inl ⟨by rfl, ?_⟩) (by assumption) ?_
        case refine_2 => (intro w hSw; (try dsimp only at hSw); clear hSw; go_simp <;> with_reducible rfl)
        simp only [Act.put, List.setIfInBounds_toArray, List.set_cons_zero, List.set_cons_succ]
        refine wpAnyH_take (i := 15) (v := .agg cs.toArray) (List.getElem?_toArray.trans rfl) (by kernel_rfl) (by kernel_rfl) (by kernel_rfl) (fun _ _ _ h => h) ?_ (by assumption) ?_
        · exact yieldsIf_load_mid (by rfl) 27 _ (by rfl) w3.heap.size 0 (by rfl) cs _ (fun _ h => h.1) Tryd.underlying27 (by rfl) hi1
        simp only [Act.put, List.setIfInBounds_toArray, List.set_cons_zero, List.set_cons_succ]
        refine wpAnyH_take (i := 16) (v := .agg ct.toArray) (List.getElem?_toArray.trans rfl) (by kernel_rfl) (by kernel_rfl) (by kernel_rfl) (fun _ _ _ h => h) ?_ (by assumption) ?_
        · exact yieldsIf_load_mid (by rfl) 27 _ (by rfl) (w3.heap.size + 1) 0 (by rfl) ct _ (fun _ h => h.2) Tryd.underlying27 (by rfl) hi2
        simp only [Act.put, List.setIfInBounds_toArray, List.set_cons_zero, List.set_cons_succ]
        refine wpAnyH_take (i := 18) (v := ?_) (List.getElem?_toArray.trans rfl) (by kernel_rfl) (by kernel_rfl) (by kernel_rfl) (fun _ _ _ h => h) (Or.inl ⟨by rfl, ?_⟩) (by assumption) ?_
        case refine_2 => (intro w hSw; (try dsimp only at hSw); clear hSw; go_simp <;> with_reducible rfl)
        simp only [Act.put, List.setIfInBounds_toArray, List.set_cons_zero, List.set_cons_succ]
        refine wpAnyH_take (i := 20) (v := .agg cs.toArray) (List.getElem?_toArray.trans rfl) (by kernel_rfl) (by kernel_rfl) (by kernel_rfl) (fun _ _ _ h => h) ?_ (by assumption) ?_
        · exact yieldsIf_load_mid (by rfl) 27 _ (by rfl) w3.heap.size 0 (by rfl) cs _ (fun _ h => h.1) Tryd.underlying27 (by rfl) hi1
        simp only [Act.put, List.setIfInBounds_toArray, List.set_cons_zero, List.set_cons_succ]
        refine wpAnyH_take (i := 21) (v := ?_) (List.getElem?_toArray.trans rfl) (by kernel_rfl) (by kernel_rfl) (by kernel_rfl) (fun _ _ _ h => h) (Or.inl ⟨by rfl, ?_⟩) (by assumption) ?_
        case refine_2 => (intro w hSw; (try dsimp only at hSw); clear hSw; go_simp <;> with_reducible rfl)
        simp only [Act.put, List.setIfInBounds_toArray, List.set_cons_zero, List.set_cons_succ]
        refine wpAnyH_ready (rs := [17]) (by kernel_rfl) (by simp) ?_
        refine AllReadyH.cons (List.getElem?_toArray.trans rfl) (fun K hK => ?_) AllReadyH.nil
        go_simp
        go_at_call 18; first | ((with_reducible refine (KAND1.out _).mono ?_); rintro e wn ⟨rfl, hbn⟩; replace HQ1 := Lib.hid (keep_map HQ1.out hbn); replace HQ2 := Lib.hid (keep_map HQ2.out hbn); have hP := And.intro HQ1.out.1 HQ2.out.1; replace HB := Lib.hid (HB.out.trans (hbn.mono HB.out.size)); clear hbn) | ((with_reducible refine (KAND2.out _).mono ?_); rintro e wn ⟨rfl, hbn⟩; replace HQ1 := Lib.hid (keep_map HQ1.out hbn); replace HQ2 := Lib.hid (keep_map HQ2.out hbn); have hP := And.intro HQ1.out.1 HQ2.out.1; replace HB := Lib.hid (HB.out.trans (hbn.mono HB.out.size)); clear hbn)
        refine hK.out _ _ hP (fun hHeld => ?_)
        clear hK K
        refine wpAnyH_ready (rs := [19]) (by kernel_rfl) (by simp) ?_
        refine AllReadyH.cons (List.getElem?_toArray.trans rfl) (fun K hK => ?_) AllReadyH.nil
        go_simp
        go_at_call 14; first | ((with_reducible refine (KH1.out _).mono ?_); rintro e wn ⟨rfl, hbn⟩; replace HQ1 := Lib.hid (keep_map HQ1.out hbn); replace HQ2 := Lib.hid (keep_map HQ2.out hbn); have hP := And.intro HQ1.out.1 HQ2.out.1; replace HB := Lib.hid (HB.out.trans (hbn.mono HB.out.size)); clear hbn) | ((with_reducible refine (KH2.out _).mono ?_); rintro e wn ⟨rfl, hbn⟩; replace HQ1 := Lib.hid (keep_map HQ1.out hbn); replace HQ2 := Lib.hid (keep_map HQ2.out hbn); have hP := And.intro HQ1.out.1 HQ2.out.1; replace HB := Lib.hid (HB.out.trans (hbn.mono HB.out.size)); clear hbn) | ((with_reducible refine (KHU.out _).mono ?_); rintro e wn ⟨rfl, hbn⟩; replace HQ1 := Lib.hid (keep_map HQ1.out hbn); replace HQ2 := Lib.hid (keep_map HQ2.out hbn); have hP := And.intro HQ1.out.1 HQ2.out.1; replace HB := Lib.hid (HB.out.trans (hbn.mono HB.out.size)); clear hbn) | ((with_reducible refine (KHA.out _).mono ?_); rintro e wn ⟨rfl, hbn⟩; replace HQ1 := Lib.hid (keep_map HQ1.out hbn); replace HQ2 := Lib.hid (keep_map HQ2.out hbn); have hP := And.intro HQ1.out.1 HQ2.out.1; replace HB := Lib.hid (HB.out.trans (hbn.mono HB.out.size)); clear hbn)
        refine hK.out _ _ hP (fun hHeld => ?_)
        clear hK K
        refine wpAnyH_ready (rs := [22]) (by kernel_rfl) (by simp) ?_
        refine AllReadyH.cons (List.getElem?_toArray.trans rfl) (fun K hK => ?_) AllReadyH.nil
        go_simp
        go_at_call 14; first | ((with_reducible refine (KH1.out _).mono ?_); rintro e wn ⟨rfl, hbn⟩; replace HQ1 := Lib.hid (keep_map HQ1.out hbn); replace HQ2 := Lib.hid (keep_map HQ2.out hbn); have hP := And.intro HQ1.out.1 HQ2.out.1; replace HB := Lib.hid (HB.out.trans (hbn.mono HB.out.size)); clear hbn) | ((with_reducible refine (KH2.out _).mono ?_); rintro e wn ⟨rfl, hbn⟩; replace HQ1 := Lib.hid (keep_map HQ1.out hbn); replace HQ2 := Lib.hid (keep_map HQ2.out hbn); have hP := And.intro HQ1.out.1 HQ2.out.1; replace HB := Lib.hid (HB.out.trans (hbn.mono HB.out.size)); clear hbn) | ((with_reducible refine (KHU.out _).mono ?_); rintro e wn ⟨rfl, hbn⟩; replace HQ1 := Lib.hid (keep_map HQ1.out hbn); replace HQ2 := Lib.hid (keep_map HQ2.out hbn); have hP := And.intro HQ1.out.1 HQ2.out.1; replace HB := Lib.hid (HB.out.trans (hbn.mono HB.out.size)); clear hbn) | ((with_reducible refine (KHA.out _).mono ?_); rintro e wn ⟨rfl, hbn⟩; replace HQ1 := Lib.hid (keep_map HQ1.out hbn); replace HQ2 := Lib.hid (keep_map HQ2.out hbn); have hP := And.intro HQ1.out.1 HQ2.out.1; replace HB := Lib.hid (HB.out.trans (hbn.mono HB.out.size)); clear hbn)
        refine hK.out _ _ hP (fun hHeld => ?_)
        clear hK K
        refine wpAnyH_take (i := 23) (v := ?_) (List.getElem?_toArray.trans rfl) (by kernel_rfl) (by kernel_rfl) (by kernel_rfl) (fun _ _ _ h => h) (Or.inl ⟨by rfl, ?_⟩) (by assumption) ?_
        case refine_2 => (intro w hSw; (try dsimp only at hSw); clear hSw; go_simp <;> with_reducible rfl)
        simp only [Act.put, List.setIfInBounds_toArray, List.set_cons_zero, List.set_cons_succ]
        refine wpAnyH_take (i := 24) (v := .agg ct.toArray) (List.getElem?_toArray.trans rfl) (by kernel_rfl) (by kernel_rfl) (by kernel_rfl) (fun _ _ _ h => h) ?_ (by assumption) ?_
        · exact yieldsIf_load_mid (by rfl) 27 _ (by rfl) (w3.heap.size + 1) 0 (by rfl) ct _ (fun _ h => h.2) Tryd.underlying27 (by rfl) hi2
        simp only [Act.put, List.setIfInBounds_toArray, List.set_cons_zero, List.set_cons_succ]
        refine wpAnyH_take (i := 25) (v := ?_) (List.getElem?_toArray.trans rfl) (by kernel_rfl) (by kernel_rfl) (by kernel_rfl) (fun _ _ _ h => h) (Or.inl ⟨by rfl, ?_⟩) (by assumption) ?_
        case refine_2 => (intro w hSw; (try dsimp only at hSw); clear hSw; go_simp <;> with_reducible rfl)
        simp only [Act.put, List.setIfInBounds_toArray, List.set_cons_zero, List.set_cons_succ]
        refine wpAnyH_ready (rs := [26]) (by kernel_rfl) (by simp) ?_
        refine AllReadyH.cons (List.getElem?_toArray.trans rfl) (fun K hK => ?_) AllReadyH.nil
        go_simp
        go_at_call 14; first | ((with_reducible refine (KH1.out _).mono ?_); rintro e wn ⟨rfl, hbn⟩; replace HQ1 := Lib.hid (keep_map HQ1.out hbn); replace HQ2 := Lib.hid (keep_map HQ2.out hbn); have hP := And.intro HQ1.out.1 HQ2.out.1; replace HB := Lib.hid (HB.out.trans (hbn.mono HB.out.size)); clear hbn) | ((with_reducible refine (KH2.out _).mono ?_); rintro e wn ⟨rfl, hbn⟩; replace HQ1 := Lib.hid (keep_map HQ1.out hbn); replace HQ2 := Lib.hid (keep_map HQ2.out hbn); have hP := And.intro HQ1.out.1 HQ2.out.1; replace HB := Lib.hid (HB.out.trans (hbn.mono HB.out.size)); clear hbn) | ((with_reducible refine (KHU.out _).mono ?_); rintro e wn ⟨rfl, hbn⟩; replace HQ1 := Lib.hid (keep_map HQ1.out hbn); replace HQ2 := Lib.hid (keep_map HQ2.out hbn); have hP := And.intro HQ1.out.1 HQ2.out.1; replace HB := Lib.hid (HB.out.trans (hbn.mono HB.out.size)); clear hbn) | ((with_reducible refine (KHA.out _).mono ?_); rintro e wn ⟨rfl, hbn⟩; replace HQ1 := Lib.hid (keep_map HQ1.out hbn); replace HQ2 := Lib.hid (keep_map HQ2.out hbn); have hP := And.intro HQ1.out.1 HQ2.out.1; replace HB := Lib.hid (HB.out.trans (hbn.mono HB.out.size)); clear hbn)
        refine hK.out _ _ hP (fun hHeld => ?_)
        clear hK K
        refine wpAnyH_take (i := 27) (v := ?_) (List.getElem?_toArray.trans rfl) (by kernel_rfl) (by kernel_rfl) (by kernel_rfl) (fun _ _ _ h => h) (Or.inl ⟨by rfl, ?_⟩) (by assumption) ?_
        case refine_2 => (intro w hSw; (try dsimp only at hSw); clear hSw; go_simp <;> with_reducible rfl)
        simp only [Act.put, List.setIfInBounds_toArray, List.set_cons_zero, List.set_cons_succ]
        refine wpAnyH_take (i := 28) (v := ?_) (List.getElem?_toArray.trans rfl) (by kernel_rfl) (by kernel_rfl) (by kernel_rfl) (fun _ _ _ h => h) (Or.inl ⟨by rfl, ?_⟩) (by assumption) ?_
        case refine_2 => (intro w hSw; (try dsimp only at hSw); clear hSw; go_simp <;> with_reducible rfl)
        simp only [Act.put, List.setIfInBounds_toArray, List.set_cons_zero, List.set_cons_succ]
        refine wpAnyH_take (i := 29) (v := ?_) (List.getElem?_toArray.trans rfl) (by kernel_rfl) (by kernel_rfl) (by kernel_rfl) (fun _ _ _ h => h) (Or.inl ⟨by rfl, ?_⟩) (by assumption) ?_
        case refine_2 => (intro w hSw; (try dsimp only at hSw); clear hSw; go_simp <;> with_reducible rfl)
        simp only [Act.put, List.setIfInBounds_toArray, List.set_cons_zero, List.set_cons_succ]
        refine wpAnyH_take (i := 30) (v := ?_) (List.getElem?_toArray.trans rfl) (by kernel_rfl) (by kernel_rfl) (by kernel_rfl) (fun _ _ _ h => h) (Or.inl ⟨by rfl, ?_⟩) (by assumption) ?_
        case refine_2 => (intro w hSw; (try dsimp only at hSw); clear hSw; go_simp <;> with_reducible rfl)
        simp only [Act.put, List.setIfInBounds_toArray, List.set_cons_zero, List.set_cons_succ]
        refine wpAnyH_take (i := 31) (v := .agg cs.toArray) (List.getElem?_toArray.trans rfl) (by kernel_rfl) (by kernel_rfl) (by kernel_rfl) (fun _ _ _ h => h) ?_ (by assumption) ?_
        · exact yieldsIf_load_mid (by rfl) 27 _ (by rfl) w3.heap.size 0 (by rfl) cs _ (fun _ h => h.1) Tryd.underlying27 (by rfl) hi1
        simp only [Act.put, List.setIfInBounds_toArray, List.set_cons_zero, List.set_cons_succ]
        refine wpAnyH_take (i := 32) (v := .agg ct.toArray) (List.getElem?_toArray.trans rfl) (by kernel_rfl) (by kernel_rfl) (by kernel_rfl) (fun _ _ _ h => h) ?_ (by assumption) ?_
        · exact yieldsIf_load_mid (by rfl) 27 _ (by rfl) (w3.heap.size + 1) 0 (by rfl) ct _ (fun _ h => h.2) Tryd.underlying27 (by rfl) hi2
        simp only [Act.put, List.setIfInBounds_toArray, List.set_cons_zero, List.set_cons_succ]
        refine wpAnyH_take (i := 34) (v := ?_) (List.getElem?_toArray.trans rfl) (by kernel_rfl) (by kernel_rfl) (by kernel_rfl) (fun _ _ _ h => h) (Or.inl ⟨by rfl, ?_⟩) (by assumption) ?_
        case refine_2 => (intro w hSw; (try dsimp only at hSw); clear hSw; go_simp <;> with_reducible rfl)
        simp only [Act.put, List.setIfInBounds_toArray, List.set_cons_zero, List.set_cons_succ]
        refine wpAnyH_ready (rs := [33]) (by kernel_rfl) (by simp) ?_
        refine AllReadyH.cons (List.getElem?_toArray.trans rfl) (fun K hK => ?_) AllReadyH.nil
        go_simp
        go_at_call 19; first | ((with_reducible refine (KW1.out _).mono ?_); rintro e wn ⟨rfl, hbn⟩; replace HQ1 := Lib.hid (keep_map HQ1.out hbn); replace HQ2 := Lib.hid (keep_map HQ2.out hbn); have hP := And.intro HQ1.out.1 HQ2.out.1; replace HB := Lib.hid (HB.out.trans (hbn.mono HB.out.size)); clear hbn) | ((with_reducible refine (KW2.out _).mono ?_); rintro e wn ⟨rfl, hbn⟩; replace HQ1 := Lib.hid (keep_map HQ1.out hbn); replace HQ2 := Lib.hid (keep_map HQ2.out hbn); have hP := And.intro HQ1.out.1 HQ2.out.1; replace HB := Lib.hid (HB.out.trans (hbn.mono HB.out.size)); clear hbn) | ((with_reducible refine (KW3.out _).mono ?_); rintro e wn ⟨rfl, hbn⟩; replace HQ1 := Lib.hid (keep_map HQ1.out hbn); replace HQ2 := Lib.hid (keep_map HQ2.out hbn); have hP := And.intro HQ1.out.1 HQ2.out.1; replace HB := Lib.hid (HB.out.trans (hbn.mono HB.out.size)); clear hbn)
        refine hK.out _ _ hP (fun hHeld => ?_)
        clear hK K
        refine wpAnyH_take (i := 35) (v := ?_) (List.getElem?_toArray.trans rfl) (by kernel_rfl) (by kernel_rfl) (by kernel_rfl) (fun _ _ _ h => h) (Or.inl ⟨by rfl, ?_⟩) (by assumption) ?_
        case refine_2 => (intro w hSw; (try dsimp only at hSw); clear hSw; go_simp <;> with_reducible rfl)
        simp only [Act.put, List.setIfInBounds_toArray, List.set_cons_zero, List.set_cons_succ]
        refine wpAnyH_take (i := 36) (v := ?_) (List.getElem?_toArray.trans rfl) (by kernel_rfl) (by kernel_rfl) (by kernel_rfl) (fun _ _ _ h => h) (Or.inl ⟨by rfl, ?_⟩) (by assumption) ?_
        case refine_2 => (intro w hSw; (try dsimp only at hSw); clear hSw; go_simp <;> with_reducible rfl)
        simp only [Act.put, List.setIfInBounds_toArray, List.set_cons_zero, List.set_cons_succ]
        refine wpAnyH_take (i := 37) (v := ?_) (List.getElem?_toArray.trans rfl) (by kernel_rfl) (by kernel_rfl) (by kernel_rfl) (fun _ _ _ h => h) (Or.inl ⟨by rfl, ?_⟩) (by assumption) ?_
        case refine_2 => (intro w hSw; (try dsimp only at hSw); clear hSw; go_simp <;> with_reducible rfl)
        simp only [Act.put, List.setIfInBounds_toArray, List.set_cons_zero, List.set_cons_succ]
        refine wpAnyH_take (i := 38) (v := .agg cs.toArray) (List.getElem?_toArray.trans rfl) (by kernel_rfl) (by kernel_rfl) (by kernel_rfl) (fun _ _ _ h => h) ?_ (by assumption) ?_
        · exact yieldsIf_load_mid (by rfl) 27 _ (by rfl) w3.heap.size 0 (by rfl) cs _ (fun _ h => h.1) Tryd.underlying27 (by rfl) hi1
        simp only [Act.put, List.setIfInBounds_toArray, List.set_cons_zero, List.set_cons_succ]
        refine wpAnyH_take (i := 39) (v := .agg ct.toArray) (List.getElem?_toArray.trans rfl) (by kernel_rfl) (by kernel_rfl) (by kernel_rfl) (fun _ _ _ h => h) ?_ (by assumption) ?_
        · exact yieldsIf_load_mid (by rfl) 27 _ (by rfl) (w3.heap.size + 1) 0 (by rfl) ct _ (fun _ h => h.2) Tryd.underlying27 (by rfl) hi2
        simp only [Act.put, List.setIfInBounds_toArray, List.set_cons_zero, List.set_cons_succ]
        refine wpAnyH_take (i := 41) (v := .agg ct.toArray) (List.getElem?_toArray.trans rfl) (by kernel_rfl) (by kernel_rfl) (by kernel_rfl) (fun _ _ _ h => h) ?_ (by assumption) ?_
        · exact yieldsIf_load_mid (by rfl) 27 _ (by rfl) (w3.heap.size + 1) 0 (by rfl) ct _ (fun _ h => h.2) Tryd.underlying27 (by rfl) hi2
        simp only [Act.put, List.setIfInBounds_toArray, List.set_cons_zero, List.set_cons_succ]
        refine wpAnyH_take (i := 42) (v := .agg cs.toArray) (List.getElem?_toArray.trans rfl) (by kernel_rfl) (by kernel_rfl) (by kernel_rfl) (fun _ _ _ h => h) ?_ (by assumption) ?_
        · exact yieldsIf_load_mid (by rfl) 27 _ (by rfl) w3.heap.size 0 (by rfl) cs _ (fun _ h => h.1) Tryd.underlying27 (by rfl) hi1
        simp only [Act.put, List.setIfInBounds_toArray, List.set_cons_zero, List.set_cons_succ]
        refine wpAnyH_ready (rs := [40]) (by kernel_rfl) (by simp) ?_
        refine AllReadyH.cons (List.getElem?_toArray.trans rfl) (fun K hK => ?_) AllReadyH.nil
        go_simp
        go_at_call 17; first | ((with_reducible refine (KOR1.out _).mono ?_); rintro e wn ⟨rfl, hbn⟩; replace HQ1 := Lib.hid (keep_map HQ1.out hbn); replace HQ2 := Lib.hid (keep_map HQ2.out hbn); have hP := And.intro HQ1.out.1 HQ2.out.1; replace HB := Lib.hid (HB.out.trans (hbn.mono HB.out.size)); clear hbn) | ((with_reducible refine (KOR2.out _).mono ?_); rintro e wn ⟨rfl, hbn⟩; replace HQ1 := Lib.hid (keep_map HQ1.out hbn); replace HQ2 := Lib.hid (keep_map HQ2.out hbn); have hP := And.intro HQ1.out.1 HQ2.out.1; replace HB := Lib.hid (HB.out.trans (hbn.mono HB.out.size)); clear hbn)
        refine hK.out _ _ hP (fun hHeld => ?_)
        clear hK K
        refine wpAnyH_ready (rs := [43]) (by kernel_rfl) (by simp) ?_
        refine AllReadyH.cons (List.getElem?_toArray.trans rfl) (fun K hK => ?_) AllReadyH.nil
        go_simp
        go_at_call 17; first | ((with_reducible refine (KOR1.out _).mono ?_); rintro e wn ⟨rfl, hbn⟩; replace HQ1 := Lib.hid (keep_map HQ1.out hbn); replace HQ2 := Lib.hid (keep_map HQ2.out hbn); have hP := And.intro HQ1.out.1 HQ2.out.1; replace HB := Lib.hid (HB.out.trans (hbn.mono HB.out.size)); clear hbn) | ((with_reducible refine (KOR2.out _).mono ?_); rintro e wn ⟨rfl, hbn⟩; replace HQ1 := Lib.hid (keep_map HQ1.out hbn); replace HQ2 := Lib.hid (keep_map HQ2.out hbn); have hP := And.intro HQ1.out.1 HQ2.out.1; replace HB := Lib.hid (HB.out.trans (hbn.mono HB.out.size)); clear hbn)
        refine hK.out _ _ hP (fun hHeld => ?_)
        clear hK K
        refine wpAnyH_take (i := 44) (v := ?_) (List.getElem?_toArray.trans rfl) (by kernel_rfl) (by kernel_rfl) (by kernel_rfl) (fun _ _ _ h => h) (Or.inl ⟨by rfl, ?_⟩) (by assumption) ?_
        case refine_2 => (intro w hSw; (try dsimp only at hSw); clear hSw; go_simp <;> with_reducible rfl)
        simp only [Act.put, List.setIfInBounds_toArray, List.set_cons_zero, List.set_cons_succ]
        refine wpAnyH_take (i := 45) (v := ?_) (List.getElem?_toArray.trans rfl) (by kernel_rfl) (by kernel_rfl) (by kernel_rfl) (fun _ _ _ h => h) (Or.inl ⟨by rfl, ?_⟩) (by assumption) ?_
        case refine_2 => (intro w hSw; (try dsimp only at hSw); clear hSw; go_simp <;> with_reducible rfl)
        simp only [Act.put, List.setIfInBounds_toArray, List.set_cons_zero, List.set_cons_succ]
        refine wpAnyH_take (i := 46) (v := ?_) (List.getElem?_toArray.trans rfl) (by kernel_rfl) (by kernel_rfl) (by kernel_rfl) (fun _ _ _ h => h) (Or.inl ⟨by rfl, ?_⟩) (by assumption) ?_
        case refine_2 => (intro w hSw; (try dsimp only at hSw); clear hSw; go_simp <;> with_reducible rfl)
        simp only [Act.put, List.setIfInBounds_toArray, List.set_cons_zero, List.set_cons_succ]
        refine wpAnyH_take (i := 47) (v := .agg cs.toArray) (List.getElem?_toArray.trans rfl) (by kernel_rfl) (by kernel_rfl) (by kernel_rfl) (fun _ _ _ h => h) ?_ (by assumption) ?_
        · exact yieldsIf_load_mid (by rfl) 27 _ (by rfl) w3.heap.size 0 (by rfl) cs _ (fun _ h => h.1) Tryd.underlying27 (by rfl) hi1
        simp only [Act.put, List.setIfInBounds_toArray, List.set_cons_zero, List.set_cons_succ]
        refine wpAnyH_take (i := 48) (v := .agg ct.toArray) (List.getElem?_toArray.trans rfl) (by kernel_rfl) (by kernel_rfl) (by kernel_rfl) (fun _ _ _ h => h) ?_ (by assumption) ?_
        · exact yieldsIf_load_mid (by rfl) 27 _ (by rfl) (w3.heap.size + 1) 0 (by rfl) ct _ (fun _ h => h.2) Tryd.underlying27 (by rfl) hi2
        simp only [Act.put, List.setIfInBounds_toArray, List.set_cons_zero, List.set_cons_succ]
        refine wpAnyH_take (i := 50) (v := .agg ct.toArray) (List.getElem?_toArray.trans rfl) (by kernel_rfl) (by kernel_rfl) (by kernel_rfl) (fun _ _ _ h => h) ?_ (by assumption) ?_
        · exact yieldsIf_load_mid (by rfl) 27 _ (by rfl) (w3.heap.size + 1) 0 (by rfl) ct _ (fun _ h => h.2) Tryd.underlying27 (by rfl) hi2
        simp only [Act.put, List.setIfInBounds_toArray, List.set_cons_zero, List.set_cons_succ]
        refine wpAnyH_take (i := 51) (v := .agg cs.toArray) (List.getElem?_toArray.trans rfl) (by kernel_rfl) (by kernel_rfl) (by kernel_rfl) (fun _ _ _ h => h) ?_ (by assumption) ?_
        · exact yieldsIf_load_mid (by rfl) 27 _ (by rfl) w3.heap.size 0 (by rfl) cs _ (fun _ h => h.1) Tryd.underlying27 (by rfl) hi1
        simp only [Act.put, List.setIfInBounds_toArray, List.set_cons_zero, List.set_cons_succ]
        refine wpAnyH_ready (rs := [49]) (by kernel_rfl) (by simp) ?_
        refine AllReadyH.cons (List.getElem?_toArray.trans rfl) (fun K hK => ?_) AllReadyH.nil
        go_simp
        go_at_call 18; first | ((with_reducible refine (KAND1.out _).mono ?_); rintro e wn ⟨rfl, hbn⟩; replace HQ1 := Lib.hid (keep_map HQ1.out hbn); replace HQ2 := Lib.hid (keep_map HQ2.out hbn); have hP := And.intro HQ1.out.1 HQ2.out.1; replace HB := Lib.hid (HB.out.trans (hbn.mono HB.out.size)); clear hbn) | ((with_reducible refine (KAND2.out _).mono ?_); rintro e wn ⟨rfl, hbn⟩; replace HQ1 := Lib.hid (keep_map HQ1.out hbn); replace HQ2 := Lib.hid (keep_map HQ2.out hbn); have hP := And.intro HQ1.out.1 HQ2.out.1; replace HB := Lib.hid (HB.out.trans (hbn.mono HB.out.size)); clear hbn)
        refine hK.out _ _ hP (fun hHeld => ?_)
        clear hK K
        refine wpAnyH_ready (rs := [52]) (by kernel_rfl) (by simp) ?_
        refine AllReadyH.cons (List.getElem?_toArray.trans rfl) (fun K hK => ?_) AllReadyH.nil
        go_simp
        go_at_call 18; first | ((with_reducible refine (KAND1.out _).mono ?_); rintro e wn ⟨rfl, hbn⟩; replace HQ1 := Lib.hid (keep_map HQ1.out hbn); replace HQ2 := Lib.hid (keep_map HQ2.out hbn); have hP := And.intro HQ1.out.1 HQ2.out.1; replace HB := Lib.hid (HB.out.trans (hbn.mono HB.out.size)); clear hbn) | ((with_reducible refine (KAND2.out _).mono ?_); rintro e wn ⟨rfl, hbn⟩; replace HQ1 := Lib.hid (keep_map HQ1.out hbn); replace HQ2 := Lib.hid (keep_map HQ2.out hbn); have hP := And.intro HQ1.out.1 HQ2.out.1; replace HB := Lib.hid (HB.out.trans (hbn.mono HB.out.size)); clear hbn)
        refine hK.out _ _ hP (fun hHeld => ?_)
        clear hK K
        refine wpAnyH_take (i := 53) (v := ?_) (List.getElem?_toArray.trans rfl) (by kernel_rfl) (by kernel_rfl) (by kernel_rfl) (fun _ _ _ h => h) (Or.inl ⟨by rfl, ?_⟩) (by assumption) ?_
        case refine_2 => (intro w hSw; (try dsimp only at hSw); clear hSw; go_simp <;> with_reducible rfl)
        simp only [Act.put, List.setIfInBounds_toArray, List.set_cons_zero, List.set_cons_succ]
        refine wpAnyH_take (i := 54) (v := ?_) (List.getElem?_toArray.trans rfl) (by kernel_rfl) (by kernel_rfl) (by kernel_rfl) (fun _ _ _ h => h) (Or.inl ⟨by rfl, ?_⟩) (by assumption) ?_
        case refine_2 => (intro w hSw; (try dsimp only at hSw); clear hSw; go_simp <;> with_reducible rfl)
        simp only [Act.put, List.setIfInBounds_toArray, List.set_cons_zero, List.set_cons_succ]
        refine wpAnyH_take (i := 55) (v := ?_) (List.getElem?_toArray.trans rfl) (by kernel_rfl) (by kernel_rfl) (by kernel_rfl) (fun _ _ _ h => h) (Or.inl ⟨by rfl, ?_⟩) (by assumption) ?_
        case refine_2 => (intro w hSw; (try dsimp only at hSw); clear hSw; go_simp <;> with_reducible rfl)
        simp only [Act.put, List.setIfInBounds_toArray, List.set_cons_zero, List.set_cons_succ]
        refine wpAnyH_take (i := 56) (v := .agg cs.toArray) (List.getElem?_toArray.trans rfl) (by kernel_rfl) (by kernel_rfl) (by kernel_rfl) (fun _ _ _ h => h) ?_ (by assumption) ?_
        · exact yieldsIf_load_mid (by rfl) 27 _ (by rfl) w3.heap.size 0 (by rfl) cs _ (fun _ h => h.1) Tryd.underlying27 (by rfl) hi1
        simp only [Act.put, List.setIfInBounds_toArray, List.set_cons_zero, List.set_cons_succ]
        refine wpAnyH_take (i := 57) (v := .agg ct.toArray) (List.getElem?_toArray.trans rfl) (by kernel_rfl) (by kernel_rfl) (by kernel_rfl) (fun _ _ _ h => h) ?_ (by assumption) ?_
        · exact yieldsIf_load_mid (by rfl) 27 _ (by rfl) (w3.heap.size + 1) 0 (by rfl) ct _ (fun _ h => h.2) Tryd.underlying27 (by rfl) hi2
        simp only [Act.put, List.setIfInBounds_toArray, List.set_cons_zero, List.set_cons_succ]
        refine wpAnyH_take (i := 59) (v := .agg cs.toArray) (List.getElem?_toArray.trans rfl) (by kernel_rfl) (by kernel_rfl) (by kernel_rfl) (fun _ _ _ h => h) ?_ (by assumption) ?_
        · exact yieldsIf_load_mid (by rfl) 27 _ (by rfl) w3.heap.size 0 (by rfl) cs _ (fun _ h => h.1) Tryd.underlying27 (by rfl) hi1
        simp only [Act.put, List.setIfInBounds_toArray, List.set_cons_zero, List.set_cons_succ]
        refine wpAnyH_ready (rs := [58]) (by kernel_rfl) (by simp) ?_
        refine AllReadyH.cons (List.getElem?_toArray.trans rfl) (fun K hK => ?_) AllReadyH.nil
        go_simp
        go_at_call 18; first | ((with_reducible refine (KAND1.out _).mono ?_); rintro e wn ⟨rfl, hbn⟩; replace HQ1 := Lib.hid (keep_map HQ1.out hbn); replace HQ2 := Lib.hid (keep_map HQ2.out hbn); have hP := And.intro HQ1.out.1 HQ2.out.1; replace HB := Lib.hid (HB.out.trans (hbn.mono HB.out.size)); clear hbn) | ((with_reducible refine (KAND2.out _).mono ?_); rintro e wn ⟨rfl, hbn⟩; replace HQ1 := Lib.hid (keep_map HQ1.out hbn); replace HQ2 := Lib.hid (keep_map HQ2.out hbn); have hP := And.intro HQ1.out.1 HQ2.out.1; replace HB := Lib.hid (HB.out.trans (hbn.mono HB.out.size)); clear hbn)
        refine hK.out _ _ hP (fun hHeld => ?_)
        clear hK K
        refine wpAnyH_ready (rs := [60]) (by kernel_rfl) (by simp) ?_
        refine AllReadyH.cons (List.getElem?_toArray.trans rfl) (fun K hK => ?_) AllReadyH.nil
        go_simp
        go_at_call 19; first | ((with_reducible refine (KW1.out _).mono ?_); rintro e wn ⟨rfl, hbn⟩; replace HQ1 := Lib.hid (keep_map HQ1.out hbn); replace HQ2 := Lib.hid (keep_map HQ2.out hbn); have hP := And.intro HQ1.out.1 HQ2.out.1; replace HB := Lib.hid (HB.out.trans (hbn.mono HB.out.size)); clear hbn) | ((with_reducible refine (KW2.out _).mono ?_); rintro e wn ⟨rfl, hbn⟩; replace HQ1 := Lib.hid (keep_map HQ1.out hbn); replace HQ2 := Lib.hid (keep_map HQ2.out hbn); have hP := And.intro HQ1.out.1 HQ2.out.1; replace HB := Lib.hid (HB.out.trans (hbn.mono HB.out.size)); clear hbn) | ((with_reducible refine (KW3.out _).mono ?_); rintro e wn ⟨rfl, hbn⟩; replace HQ1 := Lib.hid (keep_map HQ1.out hbn); replace HQ2 := Lib.hid (keep_map HQ2.out hbn); have hP := And.intro HQ1.out.1 HQ2.out.1; replace HB := Lib.hid (HB.out.trans (hbn.mono HB.out.size)); clear hbn)
        refine hK.out _ _ hP (fun hHeld => ?_)
        clear hK K
        refine wpAnyH_take (i := 61) (v := ?_) (List.getElem?_toArray.trans rfl) (by kernel_rfl) (by kernel_rfl) (by kernel_rfl) (fun _ _ _ h => h) (Or.inl ⟨by rfl, ?_⟩) (by assumption) ?_
        case refine_2 => (intro w hSw; (try dsimp only at hSw); clear hSw; go_simp <;> with_reducible rfl)
        simp only [Act.put, List.setIfInBounds_toArray, List.set_cons_zero, List.set_cons_succ]
        refine wpAnyH_take (i := 62) (v := ?_) (List.getElem?_toArray.trans rfl) (by kernel_rfl) (by kernel_rfl) (by kernel_rfl) (fun _ _ _ h => h) (Or.inl ⟨by rfl, ?_⟩) (by assumption) ?_
        case refine_2 => (intro w hSw; (try dsimp only at hSw); clear hSw; go_simp <;> with_reducible rfl)
        simp only [Act.put, List.setIfInBounds_toArray, List.set_cons_zero, List.set_cons_succ]
        refine wpAnyH_take (i := 63) (v := .agg cs.toArray) (List.getElem?_toArray.trans rfl) (by kernel_rfl) (by kernel_rfl) (by kernel_rfl) (fun _ _ _ h => h) ?_ (by assumption) ?_
        · exact yieldsIf_load_mid (by rfl) 27 _ (by rfl) w3.heap.size 0 (by rfl) cs _ (fun _ h => h.1) Tryd.underlying27 (by rfl) hi1
        simp only [Act.put, List.setIfInBounds_toArray, List.set_cons_zero, List.set_cons_succ]
        refine wpAnyH_take (i := 64) (v := .agg cs.toArray) (List.getElem?_toArray.trans rfl) (by kernel_rfl) (by kernel_rfl) (by kernel_rfl) (fun _ _ _ h => h) ?_ (by assumption) ?_
        · exact yieldsIf_load_mid (by rfl) 27 _ (by rfl) w3.heap.size 0 (by rfl) cs _ (fun _ h => h.1) Tryd.underlying27 (by rfl) hi1
        simp only [Act.put, List.setIfInBounds_toArray, List.set_cons_zero, List.set_cons_succ]
        refine wpAnyH_take (i := 65) (v := .agg ct.toArray) (List.getElem?_toArray.trans rfl) (by kernel_rfl) (by kernel_rfl) (by kernel_rfl) (fun _ _ _ h => h) ?_ (by assumption) ?_
        · exact yieldsIf_load_mid (by rfl) 27 _ (by rfl) (w3.heap.size + 1) 0 (by rfl) ct _ (fun _ h => h.2) Tryd.underlying27 (by rfl) hi2
        simp only [Act.put, List.setIfInBounds_toArray, List.set_cons_zero, List.set_cons_succ]
        refine wpAnyH_ready (rs := [66]) (by kernel_rfl) (by simp) ?_
        refine AllReadyH.cons (List.getElem?_toArray.trans rfl) (fun K hK => ?_) AllReadyH.nil
        go_simp
        go_at_call 17; first | ((with_reducible refine (KOR1.out _).mono ?_); rintro e wn ⟨rfl, hbn⟩; replace HQ1 := Lib.hid (keep_map HQ1.out hbn); replace HQ2 := Lib.hid (keep_map HQ2.out hbn); have hP := And.intro HQ1.out.1 HQ2.out.1; replace HB := Lib.hid (HB.out.trans (hbn.mono HB.out.size)); clear hbn) | ((with_reducible refine (KOR2.out _).mono ?_); rintro e wn ⟨rfl, hbn⟩; replace HQ1 := Lib.hid (keep_map HQ1.out hbn); replace HQ2 := Lib.hid (keep_map HQ2.out hbn); have hP := And.intro HQ1.out.1 HQ2.out.1; replace HB := Lib.hid (HB.out.trans (hbn.mono HB.out.size)); clear hbn)
        refine hK.out _ _ hP (fun hHeld => ?_)
        clear hK K
        refine wpAnyH_ready (rs := [67]) (by kernel_rfl) (by simp) ?_
        refine AllReadyH.cons (List.getElem?_toArray.trans rfl) (fun K hK => ?_) AllReadyH.nil
        go_simp
        go_at_call 19; first | ((with_reducible refine (KW1.out _).mono ?_); rintro e wn ⟨rfl, hbn⟩; replace HQ1 := Lib.hid (keep_map HQ1.out hbn); replace HQ2 := Lib.hid (keep_map HQ2.out hbn); have hP := And.intro HQ1.out.1 HQ2.out.1; replace HB := Lib.hid (HB.out.trans (hbn.mono HB.out.size)); clear hbn) | ((with_reducible refine (KW2.out _).mono ?_); rintro e wn ⟨rfl, hbn⟩; replace HQ1 := Lib.hid (keep_map HQ1.out hbn); replace HQ2 := Lib.hid (keep_map HQ2.out hbn); have hP := And.intro HQ1.out.1 HQ2.out.1; replace HB := Lib.hid (HB.out.trans (hbn.mono HB.out.size)); clear hbn) | ((with_reducible refine (KW3.out _).mono ?_); rintro e wn ⟨rfl, hbn⟩; replace HQ1 := Lib.hid (keep_map HQ1.out hbn); replace HQ2 := Lib.hid (keep_map HQ2.out hbn); have hP := And.intro HQ1.out.1 HQ2.out.1; replace HB := Lib.hid (HB.out.trans (hbn.mono HB.out.size)); clear hbn)
        refine hK.out _ _ hP (fun hHeld => ?_)
        clear hK K
        refine wpAnyH_take (i := 68) (v := ?_) (List.getElem?_toArray.trans rfl) (by kernel_rfl) (by kernel_rfl) (by kernel_rfl) (fun _ _ _ h => h) (Or.inl ⟨by rfl, ?_⟩) (by assumption) ?_
        case refine_2 => (intro w hSw; (try dsimp only at hSw); clear hSw; go_simp <;> with_reducible rfl)
        simp only [Act.put, List.setIfInBounds_toArray, List.set_cons_zero, List.set_cons_succ]
        refine wpAnyH_take (i := 69) (v := ?_) (List.getElem?_toArray.trans rfl) (by kernel_rfl) (by kernel_rfl) (by kernel_rfl) (fun _ _ _ h => h) (Or.inl ⟨by rfl, ?_⟩) (by assumption) ?_
        case refine_2 => (intro w hSw; (try dsimp only at hSw); clear hSw; go_simp <;> with_reducible rfl)
        simp only [Act.put, List.setIfInBounds_toArray, List.set_cons_zero, List.set_cons_succ]
        refine wpAnyH_done (by kernel_rfl) ?_ _
        go_wp2
        go_ret
        exact ⟨rfl, HB.out⟩
end
end Go.Proofs.YtgfafcolfcdkdaaDoor
