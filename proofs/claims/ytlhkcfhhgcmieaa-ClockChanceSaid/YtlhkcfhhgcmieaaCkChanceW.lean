/-
  The walk of the statement on a second chance.
-/
import Derived.Test.YtlhkcfhhgcmieaaCkAll
import Derived.Test.YtlhkcfhhgcmieaaCkChanceM
import Derived.Test.YtlhkcfhhgcmieaaRefIn1
namespace Go.Proofs.Ytlhkcfhhgcmieaa
open Go.ChangeShapes Go.WideShapes Go.ChangeAt Go.RowKit
set_option maxRecDepth 100000

theorem nums_at {w : World} {B n : Nat} {A : Option Addr} {L : List Int} (h : Vs w B A n (nums .i64 L)) {k : Nat} (hk : k < n) : ∃ g off x, A = some ⟨g, off, none⟩ ∧ g < B ∧ w.cell? ⟨g, off + k, none⟩ = some (.int .i64 x) ∧ L[k]? = some x := by
  have hl : L.length = n := by have := h.1; rwa [nums_length] at this
  obtain ⟨g, off, e, hB, hc⟩ := h.2 (by omega)
  have h1 := hc k (by rw [nums_length]; omega)
  rw [nums_get .i64 L k (by rw [nums_length]; omega) (by omega)] at h1
  exact ⟨g, off, L[k], e, hB, h1, List.getElem?_eq_getElem (by omega)⟩
theorem take_snoc' {L : List Int} {k : Nat} {x : Int} (h : L[k]? = some x) : L.take (k + 1) = L.take k ++ [x] := by
  obtain ⟨hk, e⟩ := List.getElem?_eq_some_iff.1 h
  rw [List.take_succ_eq_append_getElem hk, e]
/-- a ring in a variable of the call's own -/
structure CcIn (w W : World) (b : Nat) (m : List Ck.Sit) : Prop where
  ok : Ck.Ok m
  box : Bx W b 28 (ringC m)
  below : Below w.heap.size w W
  far : w.heap.size ≤ b
theorem CcIn.on {w W W' : World} {b : Nat} {m : List Ck.Sit} (h : CcIn w W b m) (hb : Below W.heap.size W W') : CcIn w W' b m :=
  ⟨h.ok, h.box.below hb h.box.lt, h.below.trans (hb.mono h.below.size), h.far⟩
structure CcPut (w W : World) (b : Nat) (m' : List Ck.Sit) : Prop where
  there : W.there b 0 (ringC m').toArray.size
  size : (Try.prog.info? 28).map (·.size) = some (ringC m').toArray.size
  one : (ringC m').toArray.all (·.oneCell') = true
  into : CcIn w (W.setCells b 0 (ringC m')) b m'
  keep : ∀ k, k ≠ b → (W.setCells b 0 (ringC m')).heap[k]? = W.heap[k]?
theorem CcIn.put {w W : World} {b : Nat} {m m' : List Ck.Sit} (h : CcIn w W b m) (ok : Ck.Ok m') : CcPut w W b m' := by
  have hml := h.ok.len
  have hl := ok.len
  refine ⟨h.box.there (by simp [ringC_length hl, ringC_length hml]), by rw [ring_size]; simp [ringC_length hl], all_oneCell_toArray (ringC_cell m'), ⟨ok, ?_, below_sets _ _ _ _ h.far h.below, h.far⟩, fun k hk => heap_setCells _ _ _ _ _ hk⟩
  have h1 := setCells_bx b 28 (ringC m') (ringC m) [] [] W (by rw [ringC_length hl, ringC_length hml]) (by simpa using h.box)
  simpa using h1
/-- a new variable for a ring -/
theorem CcIn.var {w W : World} {z0 : List Value} (hz : z0.length = 33) (hb : Below w.heap.size w W) {m : List Ck.Sit} (ok : Ck.Ok m) : (W.alloc (.cells z0.toArray 28)).there W.heap.size 0 (ringC m).toArray.size ∧ CcIn w ((W.alloc (.cells z0.toArray 28)).setCells W.heap.size 0 (ringC m)) W.heap.size m ∧ Below W.heap.size W ((W.alloc (.cells z0.toArray 28)).setCells W.heap.size 0 (ringC m)) := by
  obtain ⟨h1, h2, h3⟩ := ring_var ok.len W z0 hz
  exact ⟨h1, ⟨ok, h2, hb.trans (h3.mono hb.size), hb.size⟩, h3⟩
/-- what loads and stores of a ring ask -/
structure RingSz (m : List Ck.Sit) : Prop where
  size : (Try.prog.info? 28).map (·.size) = some (ringC m).toArray.size
  sizeL : (Try.prog.info? 28).map (·.size) = some (ringC m).length
  one : (ringC m).toArray.all (·.oneCell') = true
theorem RingSz.of {m : List Ck.Sit} (h : m.length ≤ 16) : RingSz m := ⟨by rw [ring_size]; simp [ringC_length h], by rw [ring_size, ringC_length h], all_oneCell_toArray (ringC_cell m)⟩
def someB (l t : List Int) : Bool := l.any fun x => Ck.may x && !decide (x ∈ t)
theorem someB_snoc (l t : List Int) (x : Int) : someB (l ++ [x]) t = (someB l t || (Ck.may x && !decide (x ∈ t))) := by simp [someB, List.any_append]
theorem someB_yes {l t : List Int} (h : someB l t = true) : ∃ x ∈ l, Ck.may x = true ∧ x ∉ t := by
  obtain ⟨x, hx, h2⟩ := List.any_eq_true.1 h
  rw [Bool.and_eq_true, Bool.not_eq_true', decide_eq_false_iff_not] at h2
  exact ⟨x, hx, h2.1, h2.2⟩
set_option maxHeartbeats 8000000 in
theorem clockChance_any (A : Option Addr) (n c : Nat) (L : List Int) (A2 : Option Addr) (n2 c2 : Nat) (T : List Int) (w : World) (h : Vs w w.heap.size A n (nums .i64 L)) (h2 : Vs w w.heap.size A2 n2 (nums .i64 T)) :
    Calls Try.prog 4 #[.slice A n c, .slice A2 n2 c2] w fun e w' => e = .returned (.bool true) ∧ Below w.heap.size w w' := by
  have ka := awake_any w
  by_cases hn : 20 < n
  · have d1 : decide ((20 : Int) < (n : Int)) = true := decide_eq_true (by omega)
    clear h h2
    go_enter Try.func4, Try.ntmps4
    go_wp2_with (go_at_call 5; (with_reducible refine ka.mono ?_); rintro e w1 ⟨rfl, hb1⟩; have HB1 := Lib.hid hb1; clear hb1)
    go_ret
    exact ⟨rfl, HB1.out⟩
  have d1 : decide ((20 : Int) < (n : Int)) = false := decide_eq_false (by omega)
  by_cases hn2 : 20 < n2
  · have d2 : decide ((20 : Int) < (n2 : Int)) = true := decide_eq_true (by omega)
    clear h h2
    go_enter Try.func4, Try.ntmps4
    go_wp2_with (go_at_call 5; (with_reducible refine ka.mono ?_); rintro e w1 ⟨rfl, hb1⟩; have HB1 := Lib.hid hb1; clear hb1)
    go_ret
    exact ⟨rfl, HB1.out⟩
  have d2 : decide ((20 : Int) < (n2 : Int)) = false := decide_eq_false (by omega)
  have HL := Lib.hid h
  have HT := Lib.hid h2
  have hz := ring_zero
  have kn : ∀ W, Calls Try.prog 6 #[] W fun e w' => e = .returned (.agg (ringC []).toArray) ∧ Below W.heap.size W w' := new_any
  have HS0 := Lib.hid (RingSz.of (m := []) (by simp))
  have HZL : Hid ((ringC []).length = 33) := Lib.hid rfl
  have HVAR : Hid (∀ W, Below w.heap.size w W → ∀ m, Ck.Ok m → (W.alloc (.cells (ringC []).toArray 28)).there W.heap.size 0 (ringC m).toArray.size ∧ CcIn w ((W.alloc (.cells (ringC []).toArray 28)).setCells W.heap.size 0 (ringC m)) W.heap.size m ∧ Below W.heap.size W ((W.alloc (.cells (ringC []).toArray 28)).setCells W.heap.size 0 (ringC m))) := Lib.hid fun W hb m ok => CcIn.var rfl hb ok
  have HN : Hid (n ≤ 20 ∧ n2 ≤ 20 ∧ L.length = n ∧ T.length = n2) := Lib.hid ⟨by omega, by omega, by have := h.1; rwa [nums_length] at this, by have := h2.1; rwa [nums_length] at this⟩
  have HV0 := Lib.hid (fun W hb => HVAR.out W hb [] Ck.Ok.nil)
  obtain ⟨z0, hz0⟩ : ∃ z, z = ringC [] := ⟨_, rfl⟩
  have HZE := Lib.hid hz0
  have HV1 : Hid (∀ W, Below w.heap.size w W → (W.alloc (.cells z0.toArray 28)).there W.heap.size 0 z0.toArray.size ∧ CcIn w ((W.alloc (.cells z0.toArray 28)).setCells W.heap.size 0 z0) W.heap.size []) := Lib.hid fun W hb => by
    have h9 := HV0.out W hb
    rw [← hz0] at h9
    exact ⟨h9.1, h9.2.1⟩
  have HSZ0 : Hid ((Try.prog.info? 28).map (·.size) = some z0.toArray.size) := Lib.hid (by rw [hz0]; exact HS0.out.size)
  have HON0 : Hid (z0.toArray.all (·.oneCell') = true) := Lib.hid (by rw [hz0]; exact HS0.out.one)
  rw [← hz0] at hz kn HZL HVAR
  clear h h2 hn hn2 hz0 HV0 HS0
  go_enter Try.func4, Try.ntmps4
  go_wp2_with (first
    | (go_at_call 5; (with_reducible refine ka.mono ?_); rintro e w1 ⟨rfl, hb1⟩; have HB1 := Lib.hid hb1; clear hb1 ka)
    | (go_at_call 6; (with_reducible refine (kn _).mono ?_); rintro e w2 ⟨rfl, hb2⟩; have HB2 := Lib.hid (HB1.out.trans (hb2.mono HB1.out.size)); have HV2 := Lib.hid (HV1.out w2 HB2.out); obtain ⟨b, hb⟩ : ∃ b, b = w2.heap.size := ⟨_, rfl⟩; have HBB := Lib.hid hb; clear hb hb2 kn)
    | (refine wpList_store_mid (by rfl) 28 (.tmp 5) (.tmp 34) (by rfl) w2.heap.size 0 z0.toArray (by rfl) (by rfl) HV2.out.1 HSZ0.out HON0.out ?_; rw [List.toList_toArray, ← HBB.out]))
  obtain ⟨wq, hwq⟩ : ∃ wq, wq = (w2.alloc (.cells z0.toArray 28)).setCells b 0 z0 := ⟨_, rfl⟩
  rw [← hwq]
  have HIN : Hid (CcIn w wq b (Ck.adds (L.take 0))) := Lib.hid (by
    have h9 := HV2.out.2
    rw [← HBB.out, ← hwq] at h9
    exact h9)
  clear HV2 HV1 HSZ0 HON0 HB1 HB2 HBB hwq
  -- the row is made
  go_loopw [37] (fun i wr => ∃ k : Nat, k ≤ n ∧ i = .int .i64 k ∧ Hid (CcIn w wr b (Ck.adds (L.take k)))) (fun i _ => n - (intOf i).toNat)
  case atStart => exact ⟨0, by omega, rfl, HIN⟩
  case round =>
    clear HIN
    obtain ⟨k, hk, rfl, HIN⟩ := hrel
    have hn20 := HN.out.1
    by_cases hlt : k < n
    · obtain ⟨g, off, x, rfl, hgB, e1, hx⟩ := nums_at HL.out hlt
      have e1 : wr.cell? ⟨g, off + k, none⟩ = some (.int .i64 x) := (HIN.out.below.cell (p := ⟨g, off + k, none⟩) hgB).trans e1
      have HX : Hid (Ck.adds (L.take (k + 1)) = Ck.add (Ck.adds (L.take k)) x) := Lib.hid (by rw [take_snoc' hx, Ck.adds_snoc])
      have HSM := Lib.hid (RingSz.of HIN.out.ok.len)
      have ct := fun W => add_any HIN.out.ok x W
      have HPUT := Lib.hid (fun W (h : CcIn w W b (Ck.adds (L.take k))) => h.put (HIN.out.ok.add x))
      unfold ringV at ct
      clear hx
      generalize Ck.adds (L.take k) = m at *
      go_wp2_with (first
        | (refine wpList_load_mid (by rfl) 28 (.tmp 5) (by rfl) b 0 (by rfl) (ringC m) _ HIN.out.box.range Try.underlying28 (by rfl) HSM.out.sizeL ?_)
        | (go_at_call 13; (with_reducible refine (ct _).mono ?_); rintro e w4 ⟨rfl, hb4⟩; have HPT := Lib.hid (HPUT.out w4 (HIN.out.on hb4)); clear hb4 ct)
        | (refine wpList_store_mid (by rfl) 28 (.tmp 5) (.tmp 43) (by rfl) b 0 (ringC (Ck.add m x)).toArray (by rfl) (by rfl) HPT.out.there HPT.out.size HPT.out.one ?_; rw [List.toList_toArray]))
      go_roundw
      case rel => exact ⟨k + 1, by omega, by go_num, Lib.hid (by rw [HX.out]; exact HPT.out.into)⟩
      case measure => simp [intOf]; omega
    · have HI : Hid (CcIn w wr b (Ck.adds L)) := Lib.hid (by
        have h9 := HIN.out
        rwa [List.take_of_length_le (by have := HN.out.2.2.1; omega)] at h9)
      have HSM := Lib.hid (RingSz.of HI.out.ok.len)
      have HVR := Lib.hid (HVAR.out wr HI.out.below (Ck.adds L) HI.out.ok)
      have HM0 : Hid (∃ m, m = Ck.adds L) := Lib.hid ⟨_, rfl⟩
      obtain ⟨m, hm⟩ := HM0.out
      rw [← hm] at HI HSM HVR
      have HMA := Lib.hid hm
      obtain ⟨b8, hb8⟩ : ∃ b8, b8 = wr.heap.size := ⟨_, rfl⟩
      obtain ⟨w5, hw5⟩ : ∃ w5, w5 = (wr.alloc (.cells z0.toArray 28)).setCells wr.heap.size 0 (ringC m) := ⟨_, rfl⟩
      have HW5 := Lib.hid hw5
      have H8 : Hid (CcIn w w5 b m ∧ CcIn w w5 b8 (Ck.touches m (T.take 0)) ∧ b ≠ b8) := Lib.hid ⟨by rw [hw5]; exact HI.out.on HVR.out.2.2, by rw [hw5, hb8]; exact HVR.out.2.1, by rw [hb8]; exact Nat.ne_of_lt HI.out.box.lt⟩
      clear hm HIN HM0 hw5
      go_wp2_with (first
        | (refine wpList_load_mid (by rfl) 28 (.tmp 5) (by rfl) b 0 (by rfl) (ringC m) _ HI.out.box.range Try.underlying28 (by rfl) HSM.out.sizeL ?_)
        | (refine wpList_store_mid (by rfl) 28 (.tmp 8) (.tmp 45) (by rfl) wr.heap.size 0 (ringC m).toArray (by rfl) (by rfl) HVR.out.1 HSM.out.size HSM.out.one ?_; rw [List.toList_toArray, ← HW5.out]))
      obtain ⟨wo, hwo⟩ : ∃ wo, wo = wr := ⟨wr, rfl⟩
      subst hwo
      rw [← hb8]
      clear HW5 HVR HI hb8 hk hlt
      -- some are touched
      go_loopw [48] (fun i wr => ∃ k : Nat, k ≤ n2 ∧ i = .int .i64 k ∧ Hid (CcIn w wr b m ∧ CcIn w wr b8 (Ck.touches m (T.take k)) ∧ b ≠ b8)) (fun i _ => n2 - (intOf i).toNat)
      case atStart => exact ⟨0, by omega, rfl, H8⟩
      case round =>
        clear H8
        obtain ⟨k, hk, rfl, HI⟩ := hrel
        have hn20 := HN.out.2.1
        by_cases hlt : k < n2
        · obtain ⟨g, off, x, rfl, hgB, e1, hx⟩ := nums_at HT.out hlt
          have e1 : wr.cell? ⟨g, off + k, none⟩ = some (.int .i64 x) := (HI.out.1.below.cell (p := ⟨g, off + k, none⟩) hgB).trans e1
          have HX : Hid (Ck.touches m (T.take (k + 1)) = Ck.touch (Ck.touches m (T.take k)) x) := Lib.hid (by rw [take_snoc' hx, Ck.touches_snoc])
          have HST := Lib.hid (RingSz.of HI.out.2.1.ok.len)
          have ct := fun W => touch_any HI.out.2.1.ok.len x W
          have HPUT := Lib.hid (fun W (h : CcIn w W b8 (Ck.touches m (T.take k))) => h.put (HI.out.2.1.ok.touch x))
          unfold ringV at ct
          clear hx
          generalize Ck.touches m (T.take k) = t at *
          go_wp2_with (first
            | (refine wpList_load_mid (by rfl) 28 (.tmp 8) (by rfl) b8 0 (by rfl) (ringC t) _ HI.out.2.1.box.range Try.underlying28 (by rfl) HST.out.sizeL ?_)
            | (go_at_call 8; (with_reducible refine (ct _).mono ?_); rintro e w4 ⟨rfl, hb4⟩; have HB4 := Lib.hid (HI.out.1.on hb4); have HPT := Lib.hid (HPUT.out w4 (HI.out.2.1.on hb4)); clear hb4 ct)
            | (refine wpList_store_mid (by rfl) 28 (.tmp 8) (.tmp 54) (by rfl) b8 0 (ringC (Ck.touch t x)).toArray (by rfl) (by rfl) HPT.out.there HPT.out.size HPT.out.one ?_; rw [List.toList_toArray]))
          go_roundw
          case rel => exact ⟨k + 1, by omega, by go_num, Lib.hid ⟨⟨HB4.out.ok, (HPT.out.keep b HI.out.2.2).trans HB4.out.box, HPT.out.into.below, HB4.out.far⟩, by rw [HX.out]; exact HPT.out.into, HI.out.2.2⟩⟩
          case measure => simp [intOf]; omega
        · have HJ : Hid (CcIn w wr b m ∧ CcIn w wr b8 (Ck.touches m T)) := Lib.hid (by
            have h9 := HI.out
            rw [List.take_of_length_le (by have := HN.out.2.2.2; omega)] at h9
            exact ⟨h9.1, h9.2.1⟩)
          have hlen : (Ck.touches m T).length = m.length := Ck.touches_length m T
          have HLEN := Lib.hid hlen
          have HTT : Hid (∃ t, t = Ck.touches m T) := Lib.hid ⟨_, rfl⟩
          obtain ⟨t, ht⟩ := HTT.out
          rw [← ht] at HJ HLEN
          have HTE := Lib.hid ht
          obtain ⟨wo, hwo⟩ : ∃ wo, wo = wr := ⟨wr, rfl⟩
          subst hwo
          clear ht HTT HI hlen hk
          go_wp2
          clear hlt
          -- whether one that may be wasn't touched
          go_loopw [11, 58] (fun v i wr => ∃ k : Nat, k ≤ n ∧ i = .int .i64 k ∧ v = .bool (someB (L.take k) T) ∧ wr = wo) (fun _ i _ => n - (intOf i).toNat)
          case atStart => exact ⟨0, by omega, rfl, rfl, rfl⟩
          case round =>
            obtain ⟨k, hk, rfl, rfl, rfl⟩ := hrel
            have hn21 := HN.out.1
            by_cases hlt : k < n
            · obtain ⟨g, off, x, rfl, hgB, e1, hx⟩ := nums_at HL.out hlt
              have e1 : wr.cell? ⟨g, off + k, none⟩ = some (.int .i64 x) := (HJ.out.1.below.cell (p := ⟨g, off + k, none⟩) hgB).trans e1
              have HX : Hid (someB (L.take (k + 1)) T = (someB (L.take k) T || (Ck.may x && !decide (x ∈ T)))) := Lib.hid (by rw [take_snoc' hx, someB_snoc])
              have ci := in01_any A2 n2 c2 x wr.heap.size T wr ((HT.out.below HJ.out.1.below).mono HJ.out.1.below.size) (by omega)
              clear hx
              generalize someB (L.take k) T = q at *
              have HQ : Hid (∀ q', someB (L.take (k + 1)) T = q' → someB (L.take (k + 1)) T = q') := Lib.hid fun _ h => h
              cases q
              · by_cases hx0 : 0 ≤ x
                · have d4 : decide ((0 : Int) ≤ x) = true := decide_eq_true hx0
                  by_cases hx1 : x ≤ 15
                  · have d5 : decide (x ≤ 15) = true := decide_eq_true hx1
                    have HX2 : Hid (someB (L.take (k + 1)) T = !decide (x ∈ T)) := Lib.hid (by rw [HX.out, show Ck.may x = true from decide_eq_true ⟨hx0, hx1⟩]; simp)
                    clear hx0 hx1
                    generalize decide (x ∈ T) = r at *
                    go_wp2_with (go_at_call 19; (with_reducible refine ci.mono ?_); rintro e w4 ⟨rfl, rfl⟩; clear ci)
                    go_roundw
                    case rel => exact ⟨k + 1, by omega, by go_num, by rw [HX2.out], by first | rfl | trivial⟩
                    case measure => simp [intOf]; omega
                  · have d5 : decide (x ≤ 15) = false := decide_eq_false hx1
                    have HX2 : Hid (someB (L.take (k + 1)) T = false) := Lib.hid (by rw [HX.out, show Ck.may x = false from decide_eq_false (fun h => hx1 h.2)]; simp)
                    clear hx0 hx1 ci
                    go_wp2
                    go_roundw
                    case rel => exact ⟨k + 1, by omega, by go_num, by rw [HX2.out], by first | rfl | trivial⟩
                    case measure => simp [intOf]; omega
                · have d4 : decide ((0 : Int) ≤ x) = false := decide_eq_false hx0
                  have HX2 : Hid (someB (L.take (k + 1)) T = false) := Lib.hid (by rw [HX.out, show Ck.may x = false from decide_eq_false (fun h => hx0 h.1)]; simp)
                  clear hx0 ci
                  go_wp2
                  go_roundw
                  case rel => exact ⟨k + 1, by omega, by go_num, by rw [HX2.out], by first | rfl | trivial⟩
                  case measure => simp [intOf]; omega
              · have HX2 : Hid (someB (L.take (k + 1)) T = true) := Lib.hid (by rw [HX.out]; simp)
                clear ci
                go_wp2
                go_roundw
                case rel => exact ⟨k + 1, by omega, by go_num, by rw [HX2.out], by first | rfl | trivial⟩
                case measure => simp [intOf]; omega
            · have HSB : Hid (∃ q, q = someB (L.take k) T ∧ (q = true → ∃ x ∈ L, Ck.may x = true ∧ x ∉ T)) := Lib.hid ⟨_, rfl, fun h => someB_yes (by rwa [List.take_of_length_le (by have := HN.out.2.2.1; omega)] at h)⟩
              obtain ⟨q, hq, hq2⟩ := HSB.out
              rw [← hq]
              have HQ := Lib.hid hq2
              have hlm : m.length ≤ 16 := HJ.out.1.ok.len
              have hlt16 : t.length ≤ 16 := by rw [HLEN.out]; exact hlm
              have ok8 := HJ.out.2.ok
              have HSM := Lib.hid (RingSz.of hlm)
              have HST := Lib.hid (RingSz.of hlt16)
              have HSV := Lib.hid (RingSz.of ok8.vic.len)
              have HSW := Lib.hid (RingSz.of (HJ.out.1.ok.vic.len))
              have HVV := Lib.hid (fun W hb => HVAR.out W hb (Ck.vic t) ok8.vic)
              have HVW := Lib.hid (fun W hb => HVAR.out W hb (Ck.vic m) HJ.out.1.ok.vic)
              have HML := Lib.hid hlm
              have HTL := Lib.hid hlt16
              have HBQ := Lib.hid ok8
              clear hq hq2 HSB ok8 HVAR
              have hn21 := HN.out.1
              by_cases hm0 : m = []
              · have ht0 : t = [] := List.eq_nil_of_length_eq_zero (by rw [HLEN.out, hm0]; rfl)
                have hqf : q = false := by
                  cases q with
                  | false => rfl
                  | true =>
                    obtain ⟨x, hx, hxm, -⟩ := HQ.out rfl
                    have h9 := Ck.there_adds hx hxm
                    rw [← HMA.out, hm0] at h9
                    simp at h9
                subst hqf
                have cv : ∀ W, Calls Try.prog 11 #[.agg (ringC t).toArray] W fun e w' => e = .returned (.tuple #[.int .i64 0, .agg (ringC (Ck.vic t)).toArray, .bool false]) ∧ Below W.heap.size W w' := fun W => (victim_any HTL.out W).mono fun e w' ⟨he, hb⟩ => ⟨by rw [he, ht0]; rfl, hb⟩
                have cw : ∀ W, Calls Try.prog 11 #[.agg (ringC m).toArray] W fun e w' => e = .returned (.tuple #[.int .i64 0, .agg (ringC (Ck.vic m)).toArray, .bool false]) ∧ Below W.heap.size W w' := fun W => (victim_any HML.out W).mono fun e w' ⟨he, hb⟩ => ⟨by rw [he, hm0]; rfl, hb⟩
                have cl : ∀ W, Calls Try.prog 17 #[.agg (ringC m).toArray] W fun e w' => e = .returned (.int .i64 0) ∧ Below W.heap.size W w' := fun W => (len_any HML.out W).mono fun e w' ⟨he, hb⟩ => ⟨by rw [he, hm0]; rfl, hb⟩
                have cl2 : ∀ W, Calls Try.prog 17 #[.agg (ringC (Ck.vic t)).toArray] W fun e w' => e = .returned (.int .i64 0) ∧ Below W.heap.size W w' := fun W => (len_any (l := Ck.vic t) (by rw [ht0]; simp [Ck.vic_nil]) W).mono fun e w' ⟨he, hb⟩ => ⟨by rw [he, ht0]; rfl, hb⟩
                clear hm0 ht0
                go_wp2_with (first
                  | (refine wpList_load_mid (by rfl) 28 (.tmp 8) (by rfl) b8 0 (by rfl) (ringC t) _ HJ.out.2.box.range Try.underlying28 (by rfl) HST.out.sizeL ?_)
                  | (go_at_call 11; (with_reducible refine (cv _).mono ?_); rintro e w4 ⟨rfl, hb4⟩; have HJ4 := Lib.hid (And.intro (HJ.out.1.on hb4) (HJ.out.2.on hb4)); have HV4 := Lib.hid (HVV.out w4 HJ4.out.1.below); have HJ5 := Lib.hid (HJ4.out.1.on HV4.out.2.2); clear hb4 cv)
                  | (refine wpList_store_mid (by rfl) 28 (.tmp 15) (.tmp 82) (by rfl) w4.heap.size 0 (ringC (Ck.vic t)).toArray (by rfl) (by rfl) HV4.out.1 HSV.out.size HSV.out.one ?_; rw [List.toList_toArray])
                  | (refine wpList_load_mid (by rfl) 28 (.tmp 5) (by rfl) b 0 (by rfl) (ringC m) _ HJ5.out.box.range Try.underlying28 (by rfl) HSM.out.sizeL ?_)
                  | (go_at_call 11; (with_reducible refine (cw _).mono ?_); rintro e w6 ⟨rfl, hb6⟩; have HJ6 := Lib.hid (HJ5.out.on hb6); have HN6 := Lib.hid (HV4.out.2.1.on hb6); have HV6 := Lib.hid (HVW.out w6 HJ6.out.below); have HJ7 := Lib.hid (HJ6.out.on HV6.out.2.2); have HN7 := Lib.hid (HN6.out.on HV6.out.2.2); clear hb6 cw)
                  | (refine wpList_store_mid (by rfl) 28 (.tmp 18) (.tmp 88) (by rfl) w6.heap.size 0 (ringC (Ck.vic m)).toArray (by rfl) (by rfl) HV6.out.1 HSW.out.size HSW.out.one ?_; rw [List.toList_toArray])
                  | (refine wpList_load_want (by rfl) 28 (.tmp 5) (by rfl) b 0 (by rfl) (ringC m) _ HJ7.out.box.range Try.underlying28 (by rfl) HSM.out.sizeL ?_)
                  | (go_at_call 17; (with_reducible refine (cl _).mono ?_); rintro e w8 ⟨rfl, hb8⟩; have HN8 := Lib.hid (HN7.out.on hb8); clear hb8)
                  | (refine wpList_load_mid (by rfl) 28 (.tmp 15) (by rfl) w4.heap.size 0 (by rfl) (ringC (Ck.vic t)) _ HN8.out.box.range Try.underlying28 (by rfl) HSV.out.sizeL ?_)
                  | (go_at_call 17; (with_reducible refine (cl2 _).mono ?_); rintro e w9 ⟨rfl, hb9⟩; have HN9 := Lib.hid (HN8.out.on hb9); clear hb9))
                go_ret
                exact ⟨rfl, HN9.out.below⟩
              · have ht0 : t ≠ [] := fun e => hm0 (List.eq_nil_of_length_eq_zero (by rw [← HLEN.out, e]; rfl))
                have HCH : Hid (q = true → Ck.who t ∉ T) := Lib.hid fun h => by rw [HTE.out, HMA.out]; exact Ck.chance (HQ.out h)
                have cv : ∀ W, Calls Try.prog 11 #[.agg (ringC t).toArray] W fun e w' => e = .returned (.tuple #[.int .i64 (Ck.who t), .agg (ringC (Ck.vic t)).toArray, .bool true]) ∧ Below W.heap.size W w' := fun W => (victim_any HTL.out W).mono fun e w' ⟨he, hb⟩ => ⟨by rw [he, decide_eq_true ht0], hb⟩
                have cw : ∀ W, Calls Try.prog 11 #[.agg (ringC m).toArray] W fun e w' => e = .returned (.tuple #[.int .i64 (Ck.who m), .agg (ringC (Ck.vic m)).toArray, .bool true]) ∧ Below W.heap.size W w' := fun W => (victim_any HML.out W).mono fun e w' ⟨he, hb⟩ => ⟨by rw [he, decide_eq_true hm0], hb⟩
                obtain ⟨N, hN⟩ : ∃ N, N = m.length := ⟨_, rfl⟩
                have hN0 : 0 < N := by rw [hN]; exact List.length_pos_iff.2 hm0
                have cl : ∀ W, Calls Try.prog 17 #[.agg (ringC m).toArray] W fun e w' => e = .returned (.int .i64 (N : Int)) ∧ Below W.heap.size W w' := fun W => (len_any HML.out W).mono fun e w' ⟨he, hb⟩ => ⟨by rw [he, hN], hb⟩
                have HCI : Hid (∀ W, Below w.heap.size w W → q = true → Calls Try.prog 19 #[.slice A2 n2 c2, .int .i64 (Ck.who t)] W fun e w' => e = .returned (.bool false) ∧ W = w') := Lib.hid fun W hb hq => (in01_any A2 n2 c2 (Ck.who t) W.heap.size T W ((HT.out.below hb).mono hb.size) (by have := HN.out; omega)).mono fun e w' ⟨he, hw⟩ => ⟨by rw [he, decide_eq_false (HCH.out hq)], hw⟩
                have d6 : decide ((0 : Int) < (N : Int)) = true := decide_eq_true (by omega)
                have hplain : ∀ p ∈ m, p.2 = false := by rw [HMA.out]; exact Ck.plain_adds L
                have HFM : Hid ((m.map (·.1))[0]? = some (Ck.who m) ∧ ∀ o, Ck.mark m o = false) := Lib.hid ⟨Ck.who_plain hplain hm0, Ck.mark_plain hplain⟩
                have HFT := Lib.hid (Ck.who_first ht0)
                have HNL : Hid (N = m.length ∧ N = (Ck.vic t).length ∧ N ≤ 16) := Lib.hid ⟨hN, by rw [Ck.vic_length, HLEN.out]; exact hN, by rw [hN]; exact HML.out⟩
                clear hm0 ht0 hplain hN HCH HQ
                generalize Ck.who t = wh at *
                generalize Ck.who m = wf at *
                have HOV := Lib.hid HBQ.out.vic
                obtain ⟨wo, hwo⟩ : ∃ wo, wo = wr := ⟨wr, rfl⟩
                subst hwo
                cases q
                all_goals
                  go_wp2_with (first
                    | (refine wpList_load_mid (by rfl) 28 (.tmp 8) (by rfl) b8 0 (by rfl) (ringC t) _ HJ.out.2.box.range Try.underlying28 (by rfl) HST.out.sizeL ?_)
                    | (go_at_call 11; (with_reducible refine (cv _).mono ?_); rintro e w4 ⟨rfl, hb4⟩; have HJ4 := Lib.hid (And.intro (HJ.out.1.on hb4) (HJ.out.2.on hb4)); have HV4 := Lib.hid (HVV.out w4 HJ4.out.1.below); have HJ5 := Lib.hid (HJ4.out.1.on HV4.out.2.2); clear hb4 cv)
                    | (refine wpList_store_mid (by rfl) 28 (.tmp 15) (.tmp 82) (by rfl) w4.heap.size 0 (ringC (Ck.vic t)).toArray (by rfl) (by rfl) HV4.out.1 HSV.out.size HSV.out.one ?_; rw [List.toList_toArray])
                    | (refine wpList_load_mid (by rfl) 28 (.tmp 5) (by rfl) b 0 (by rfl) (ringC m) _ HJ5.out.box.range Try.underlying28 (by rfl) HSM.out.sizeL ?_)
                    | (go_at_call 11; (with_reducible refine (cw _).mono ?_); rintro e w6 ⟨rfl, hb6⟩; have HJ6 := Lib.hid (HJ5.out.on hb6); have HN6 := Lib.hid (HV4.out.2.1.on hb6); have HV6 := Lib.hid (HVW.out w6 HJ6.out.below); have HJ7 := Lib.hid (HJ6.out.on HV6.out.2.2); have HN7 := Lib.hid (HN6.out.on HV6.out.2.2); clear hb6 cw)
                    | (refine wpList_store_mid (by rfl) 28 (.tmp 18) (.tmp 88) (by rfl) w6.heap.size 0 (ringC (Ck.vic m)).toArray (by rfl) (by rfl) HV6.out.1 HSW.out.size HSW.out.one ?_; rw [List.toList_toArray])
                    | (refine wpList_load_want (by rfl) 28 (.tmp 5) (by rfl) b 0 (by rfl) (ringC m) _ HJ7.out.box.range Try.underlying28 (by rfl) HSM.out.sizeL ?_)
                    | (go_at_call 17; (with_reducible refine (cl _).mono ?_); rintro e w8 ⟨rfl, hb8⟩; have HX8 := Lib.hid (And.intro (HJ7.out.on hb8) (HN7.out.on hb8)); clear hb8)
                    | (go_at_call 19; (with_reducible refine (HCI.out w8 HX8.out.1.below (by first | rfl | trivial)).mono ?_); rintro e w9 ⟨rfl, rfl⟩))
                  obtain ⟨b15, hb15⟩ : ∃ b15, b15 = w4.heap.size := ⟨_, rfl⟩
                  rw [← hb15]
                  have HY : Hid (CcIn w w8 b m ∧ CcIn w w8 b15 (Ck.vic t)) := Lib.hid ⟨HX8.out.1, by rw [hb15]; exact HX8.out.2⟩
                  clear HX8 HV4 HV6 HJ4 HJ5 HJ6 HJ7 HN6 HN7 hb15 HVV HVW HCI HJ
                  --LOOP4
                  go_loopw [115] (fun i wr => ∃ k : Nat, k ≤ n ∧ i = .int .i64 k ∧ Hid (CcIn w wr b m ∧ CcIn w wr b15 (Ck.vic t))) (fun i _ => n - (intOf i).toNat)
                  case atStart => exact ⟨0, by omega, rfl, HY⟩
                  case round =>
                    clear HY
                    obtain ⟨k, hk, rfl, HY⟩ := hrel
                    have hn21 := HN.out.1
                    by_cases hlt : k < n
                    · obtain ⟨g, off, x, rfl, hgB, e1, hx⟩ := nums_at HL.out hlt
                      have e1 : wr.cell? ⟨g, off + k, none⟩ = some (.int .i64 x) := (HY.out.1.below.cell (p := ⟨g, off + k, none⟩) hgB).trans e1
                      have cm : ∀ W, Calls Try.prog 14 #[.agg (ringC m).toArray, .int .i64 x] W fun e w' => e = .returned (.bool false) ∧ Below W.heap.size W w' := fun W => (marked_any HML.out x W).mono fun e w' ⟨he, hb⟩ => ⟨by rw [he, HFM.out.2], hb⟩
                      clear hx
                      go_wp2_with (first
                        | (refine wpList_load_mid (by rfl) 28 (.tmp 5) (by rfl) b 0 (by rfl) (ringC m) _ HY.out.1.box.range Try.underlying28 (by rfl) HSM.out.sizeL ?_)
                        | (go_at_call 14; (with_reducible refine (cm _).mono ?_); rintro e w10 ⟨rfl, hb10⟩; have HY2 := Lib.hid (And.intro (HY.out.1.on hb10) (HY.out.2.on hb10)); clear hb10 cm))
                      go_roundw
                      case rel => exact ⟨k + 1, by omega, by go_num, HY2⟩
                      case measure => simp [intOf]; omega
                    · --LAST
                      have hkn : k = n := by omega
                      clear hk hkn
                      have hNL := HNL.out
                      have ca15 : ∀ W, Calls Try.prog 16 #[.agg (ringC (Ck.vic t)).toArray] W fun e w' => ∃ A' c', e = .returned (.slice A' N c') ∧ Vs w' w'.heap.size A' N (nums .i64 ((Ck.vic t).map (·.1))) ∧ Below W.heap.size W w' := fun W => (all_any (l := Ck.vic t) (by omega) W).mono fun e w' ⟨A', c', he, hv, _, hb⟩ => by
                        rw [List.length_map, ← HNL.out.2.1] at he hv
                        exact ⟨A', c', he, hv, hb⟩
                      have ca5 : ∀ W, Calls Try.prog 16 #[.agg (ringC m).toArray] W fun e w' => ∃ A' c', e = .returned (.slice A' N c') ∧ Vs w' w'.heap.size A' N (nums .i64 (m.map (·.1))) ∧ Below W.heap.size W w' := fun W => (all_any HML.out W).mono fun e w' ⟨A', c', he, hv, _, hb⟩ => by
                        rw [List.length_map, ← HNL.out.1] at he hv
                        exact ⟨A', c', he, hv, hb⟩
                      have cl15 : ∀ W, Calls Try.prog 17 #[.agg (ringC (Ck.vic t)).toArray] W fun e w' => e = .returned (.int .i64 (N : Int)) ∧ Below W.heap.size W w' := fun W => (len_any (l := Ck.vic t) (by omega) W).mono fun e w' ⟨he, hb⟩ => ⟨by rw [he, ← HNL.out.2.1], hb⟩
                      have chs : ∀ W, Calls Try.prog 18 #[.agg (ringC (Ck.vic t)).toArray, .int .i64 wh] W fun e w' => e = .returned (.bool true) ∧ Below W.heap.size W w' := fun W => (has_any (l := Ck.vic t) (by omega) wh W).mono fun e w' ⟨he, hb⟩ => ⟨by rw [he, decide_eq_true HFT.out.2.1], hb⟩
                      have cmk : ∀ W, Calls Try.prog 14 #[.agg (ringC (Ck.vic t)).toArray, .int .i64 wh] W fun e w' => e = .returned (.bool false) ∧ Below W.heap.size W w' := fun W => (marked_any (l := Ck.vic t) (by omega) wh W).mono fun e w' ⟨he, hb⟩ => ⟨by rw [he, HFT.out.2.2], hb⟩
                      have HB0 := Lib.hid (Below.refl wr.heap.size wr).drew
                      have HPS : Hid (∀ W, Below wr.heap.size wr W → W.rangeAt b15 0 (ringC (Ck.vic t)) ∧ W.rangeAt b 0 (ringC m)) := Lib.hid fun W hb => ⟨(HY.out.2.on hb).box.range, (HY.out.1.on hb).box.range⟩
                      have hP := HPS.out _ HB0.out
                      clear hNL
                      go_upto_region 35 with fail
                      refine wp_region_held_drew (S := (fun W => W.rangeAt b15 0 (ringC (Ck.vic t)) ∧ W.rangeAt b 0 (ringC m))) (by kernel_rfl) hP (fun hHeld => ?_)
                      generalize wr.drew = wc at *
                      refine wpAnyH_take (i := 0) (v := .agg (ringC (Ck.vic t)).toArray) (List.getElem?_toArray.trans rfl) (by kernel_rfl) (by kernel_rfl) (by kernel_rfl) (fun _ _ _ h => h) ?_ (by assumption) ?_
                      · exact yieldsIf_load_mid (by rfl) 28 _ (by rfl) b15 0 (by rfl) (ringC (Ck.vic t)) _ (fun _ h => h.1) Try.underlying28 (by rfl) HSV.out.sizeL
                      simp only [Act.put, List.setIfInBounds_toArray, List.set_cons_zero, List.set_cons_succ]
                      refine wpAnyH_take (i := 2) (v := .agg (ringC m).toArray) (List.getElem?_toArray.trans rfl) (by kernel_rfl) (by kernel_rfl) (by kernel_rfl) (fun _ _ _ h => h) ?_ (by assumption) ?_
                      · exact yieldsIf_load_mid (by rfl) 28 _ (by rfl) b 0 (by rfl) (ringC m) _ (fun _ h => h.2) Try.underlying28 (by rfl) HSM.out.sizeL
                      simp only [Act.put, List.setIfInBounds_toArray, List.set_cons_zero, List.set_cons_succ]
                      refine wpAnyH_ready (rs := [1]) (by kernel_rfl) (by simp) ?_
                      refine AllReadyH.cons (List.getElem?_toArray.trans rfl) (fun K hK => ?_) AllReadyH.nil
                      go_simp
                      go_at_call 16; first | ((with_reducible refine (ca15 _).mono ?_); rintro e wc ⟨A22, c22, rfl, hv, hbn⟩; replace HB0 := Lib.hid (HB0.out.trans (hbn.mono HB0.out.size)); have hP := HPS.out _ HB0.out; (try replace HV23 := Lib.hid ((Vs.below HV23.out hbn).mono hbn.size)); have HV22 := Lib.hid hv; clear hbn hv) | ((with_reducible refine (ca5 _).mono ?_); rintro e wc ⟨A23, c23, rfl, hv, hbn⟩; replace HB0 := Lib.hid (HB0.out.trans (hbn.mono HB0.out.size)); have hP := HPS.out _ HB0.out; (try replace HV22 := Lib.hid ((Vs.below HV22.out hbn).mono hbn.size)); have HV23 := Lib.hid hv; clear hbn hv)
                      refine hK.out _ _ hP (fun hHeld => ?_)
                      clear hK K
                      refine wpAnyH_ready (rs := [3]) (by kernel_rfl) (by simp) ?_
                      refine AllReadyH.cons (List.getElem?_toArray.trans rfl) (fun K hK => ?_) AllReadyH.nil
                      go_simp
                      go_at_call 16; first | ((with_reducible refine (ca15 _).mono ?_); rintro e wc ⟨A22, c22, rfl, hv, hbn⟩; replace HB0 := Lib.hid (HB0.out.trans (hbn.mono HB0.out.size)); have hP := HPS.out _ HB0.out; (try replace HV23 := Lib.hid ((Vs.below HV23.out hbn).mono hbn.size)); have HV22 := Lib.hid hv; clear hbn hv) | ((with_reducible refine (ca5 _).mono ?_); rintro e wc ⟨A23, c23, rfl, hv, hbn⟩; replace HB0 := Lib.hid (HB0.out.trans (hbn.mono HB0.out.size)); have hP := HPS.out _ HB0.out; (try replace HV22 := Lib.hid ((Vs.below HV22.out hbn).mono hbn.size)); have HV23 := Lib.hid hv; clear hbn hv)
                      refine hK.out _ _ hP (fun hHeld => ?_)
                      clear hK K
                      refine wpAnyH_take (i := 4) (v := ?_) (List.getElem?_toArray.trans rfl) (by kernel_rfl) (by kernel_rfl) (by kernel_rfl) (fun _ _ _ h => h) (Or.inl ⟨by rfl, ?_⟩) (by assumption) ?_
                      case refine_2 => (intro w hSw; (try dsimp only at hSw); clear hSw; go_simp <;> with_reducible rfl)
                      simp only [Act.put, List.setIfInBounds_toArray, List.set_cons_zero, List.set_cons_succ]
                      refine wpAnyH_take (i := 5) (v := ?_) (List.getElem?_toArray.trans rfl) (by kernel_rfl) (by kernel_rfl) (by kernel_rfl) (fun _ _ _ h => h) (Or.inl ⟨by rfl, ?_⟩) (by assumption) ?_
                      case refine_2 => (intro w hSw; (try dsimp only at hSw); clear hSw; go_simp <;> with_reducible rfl)
                      simp only [Act.put, List.setIfInBounds_toArray, List.set_cons_zero, List.set_cons_succ]
                      refine wpAnyH_done (by kernel_rfl) ?_ _
                      go_upto_region 36 with fail
                      obtain ⟨wx, hwx⟩ : ∃ wx, wx = wc := ⟨wc, rfl⟩
                      subst hwx
                      have HBX := Lib.hid HB0.out
                      obtain ⟨g2, f2, x2, rfl, hg2, e2, hx2⟩ := nums_at HV22.out (k := 0) hN0
                      obtain ⟨g3, f3, x3, rfl, hg3, e3, hx3⟩ := nums_at HV23.out (k := 0) hN0
                      have hxa : x2 = wh := by have := HFT.out.1; rw [hx2] at this; injection this
                      have hxb : x3 = wf := by have := HFM.out.1; rw [hx3] at this; injection this
                      rw [hxa, Nat.add_zero] at e2
                      rw [hxb, Nat.add_zero] at e3
                      have hNN : ((N : Int) == (N : Int)) = true := by simp
                      have hww : (wh == wh) = true := by simp
                      have hff : (wf == wf) = true := by simp
                      have HB1 := Lib.hid (Below.refl wx.heap.size wx).drew
                      have HPT : Hid (∀ W, Below wx.heap.size wx W → W.rangeAt b15 0 (ringC (Ck.vic t)) ∧ W.rangeAt b 0 (ringC m) ∧ W.cell? ⟨g2, f2, none⟩ = some (.int .i64 wh) ∧ W.cell? ⟨g3, f3, none⟩ = some (.int .i64 wf)) := Lib.hid fun W hb => by
                        have hw := HBX.out.trans (hb.mono HBX.out.size)
                        obtain ⟨k1, k2⟩ := HPS.out W hw
                        exact ⟨k1, k2, (hb.cell (p := ⟨g2, f2, none⟩) hg2).trans e2, (hb.cell (p := ⟨g3, f3, none⟩) hg3).trans e3⟩
                      have HEE : Hid (∀ W, Below wx.heap.size wx W → Below w.heap.size w W) := Lib.hid fun W hb => HY.out.1.below.trans ((HBX.out.trans (hb.mono HBX.out.size)).mono HY.out.1.below.size)
                      have hP := HPT.out _ HB1.out
                      clear hx2 hx3 hxa hxb hg2 hg3
                      refine wp_region_held_drew (S := (fun W => W.rangeAt b15 0 (ringC (Ck.vic t)) ∧ W.rangeAt b 0 (ringC m) ∧ W.cell? ⟨g2, f2, none⟩ = some (.int .i64 wh) ∧ W.cell? ⟨g3, f3, none⟩ = some (.int .i64 wf))) (by kernel_rfl) hP (fun hHeld => ?_)
                      generalize wx.drew = wd at *
                      refine wpAnyH_take (i := 0) (v := ?_) (List.getElem?_toArray.trans rfl) (by decide +kernel) (by decide +kernel) (by decide +kernel) (fun _ _ _ h => h) (Or.inl ⟨by rfl, ?_⟩) (by assumption) ?_
                      case refine_2 => (intro w hSw; (try dsimp only at hSw); clear hSw; go_simp <;> with_reducible rfl)
                      simp only [Act.put, List.setIfInBounds_toArray, List.set_cons_zero, List.set_cons_succ]
                      refine wpAnyH_take (i := 1) (v := ?_) (List.getElem?_toArray.trans rfl) (by decide +kernel) (by decide +kernel) (by decide +kernel) (fun _ _ _ h => h) (Or.inl ⟨by rfl, ?_⟩) (by assumption) ?_
                      case refine_2 => (intro w hSw; (try dsimp only at hSw); clear hSw; go_simp <;> with_reducible rfl)
                      simp only [Act.put, List.setIfInBounds_toArray, List.set_cons_zero, List.set_cons_succ]
                      refine wpAnyH_take (i := 2) (v := ?_) (List.getElem?_toArray.trans rfl) (by decide +kernel) (by decide +kernel) (by decide +kernel) (fun _ _ _ h => h) (Or.inl ⟨by rfl, ?_⟩) (by assumption) ?_
                      case refine_2 => (intro w hSw; (try dsimp only at hSw); clear hSw; go_simp <;> with_reducible rfl)
                      simp only [Act.put, List.setIfInBounds_toArray, List.set_cons_zero, List.set_cons_succ]
                      refine wpAnyH_take (i := 3) (v := ?_) (List.getElem?_toArray.trans rfl) (by decide +kernel) (by decide +kernel) (by decide +kernel) (fun _ _ _ h => h) (Or.inl ⟨by rfl, ?_⟩) (by assumption) ?_
                      case refine_2 => (intro w hSw; (try dsimp only at hSw); clear hSw; go_simp <;> with_reducible rfl)
                      simp only [Act.put, List.setIfInBounds_toArray, List.set_cons_zero, List.set_cons_succ]
                      refine wpAnyH_take (i := 4) (v := ?_) (List.getElem?_toArray.trans rfl) (by decide +kernel) (by decide +kernel) (by decide +kernel) (fun _ _ _ h => h) (Or.inl ⟨by rfl, ?_⟩) (by assumption) ?_
                      case refine_2 => (intro w hSw; (try dsimp only at hSw); clear hSw; go_simp <;> with_reducible rfl)
                      simp only [Act.put, List.setIfInBounds_toArray, List.set_cons_zero, List.set_cons_succ]
                      refine wpAnyH_take (i := 5) (v := ?_) (List.getElem?_toArray.trans rfl) (by decide +kernel) (by decide +kernel) (by decide +kernel) (fun _ _ _ h => h) (Or.inl ⟨by rfl, ?_⟩) (by assumption) ?_
                      case refine_2 => (intro w hSw; (try dsimp only at hSw); clear hSw; go_simp <;> with_reducible rfl)
                      simp only [Act.put, List.setIfInBounds_toArray, List.set_cons_zero, List.set_cons_succ]
                      refine wpAnyH_take (i := 6) (v := ?_) (List.getElem?_toArray.trans rfl) (by decide +kernel) (by decide +kernel) (by decide +kernel) (fun _ _ _ h => h) (Or.inl ⟨by rfl, ?_⟩) (by assumption) ?_
                      case refine_2 => (intro w hSw; (try dsimp only at hSw); clear hSw; go_simp <;> with_reducible rfl)
                      simp only [Act.put, List.setIfInBounds_toArray, List.set_cons_zero, List.set_cons_succ]
                      refine wpAnyH_take (i := 7) (v := ?_) (List.getElem?_toArray.trans rfl) (by decide +kernel) (by decide +kernel) (by decide +kernel) (fun _ _ _ h => h) (Or.inl ⟨by rfl, ?_⟩) (by assumption) ?_
                      case refine_2 => (intro w hSw; (try dsimp only at hSw); clear hSw; go_simp <;> with_reducible rfl)
                      simp only [Act.put, List.setIfInBounds_toArray, List.set_cons_zero, List.set_cons_succ]
                      refine wpAnyH_take (i := 8) (v := ?_) (List.getElem?_toArray.trans rfl) (by decide +kernel) (by decide +kernel) (by decide +kernel) (fun _ _ _ h => h) (Or.inl ⟨by rfl, ?_⟩) (by assumption) ?_
                      case refine_2 => (intro w hSw; (try dsimp only at hSw); clear hSw; go_simp <;> with_reducible rfl)
                      simp only [Act.put, List.setIfInBounds_toArray, List.set_cons_zero, List.set_cons_succ]
                      refine wpAnyH_take (i := 9) (v := .agg (ringC (Ck.vic t)).toArray) (List.getElem?_toArray.trans rfl) (by decide +kernel) (by decide +kernel) (by decide +kernel) (fun _ _ _ h => h) ?_ (by assumption) ?_
                      · exact yieldsIf_load_mid (by rfl) 28 _ (by rfl) b15 0 (by rfl) (ringC (Ck.vic t)) _ (fun _ h => h.1) Try.underlying28 (by rfl) HSV.out.sizeL
                      simp only [Act.put, List.setIfInBounds_toArray, List.set_cons_zero, List.set_cons_succ]
                      refine wpAnyH_take (i := 10) (v := ?_) (List.getElem?_toArray.trans rfl) (by decide +kernel) (by decide +kernel) (by decide +kernel) (fun _ _ _ h => h) (Or.inl ⟨by rfl, ?_⟩) (by assumption) ?_
                      case refine_2 => (intro w hSw; (try dsimp only at hSw); clear hSw; go_simp <;> with_reducible rfl)
                      simp only [Act.put, List.setIfInBounds_toArray, List.set_cons_zero, List.set_cons_succ]
                      refine wpAnyH_ready (rs := [11]) (by decide +kernel) (by simp) ?_
                      refine AllReadyH.cons (List.getElem?_toArray.trans rfl) (fun K hK => ?_) AllReadyH.nil
                      go_simp
                      go_at_call 18; (with_reducible refine (chs _).mono ?_); rintro e wd ⟨rfl, hbn⟩; replace HB1 := Lib.hid (HB1.out.trans (hbn.mono HB1.out.size)); have hP := HPT.out _ HB1.out; clear hbn
                      refine hK.out _ _ hP (fun hHeld => ?_)
                      clear hK K
                      refine wpAnyH_take (i := 12) (v := ?_) (List.getElem?_toArray.trans rfl) (by decide +kernel) (by decide +kernel) (by decide +kernel) (fun _ _ _ h => h) (Or.inl ⟨by rfl, ?_⟩) (by assumption) ?_
                      case refine_2 => (intro w hSw; (try dsimp only at hSw); clear hSw; go_simp <;> with_reducible rfl)
                      simp only [Act.put, List.setIfInBounds_toArray, List.set_cons_zero, List.set_cons_succ]
                      refine wpAnyH_take (i := 13) (v := ?_) (List.getElem?_toArray.trans rfl) (by decide +kernel) (by decide +kernel) (by decide +kernel) (fun _ _ _ h => h) (Or.inl ⟨by rfl, ?_⟩) (by assumption) ?_
                      case refine_2 => (intro w hSw; (try dsimp only at hSw); clear hSw; go_simp <;> with_reducible rfl)
                      simp only [Act.put, List.setIfInBounds_toArray, List.set_cons_zero, List.set_cons_succ]
                      refine wpAnyH_take (i := 14) (v := .agg (ringC (Ck.vic t)).toArray) (List.getElem?_toArray.trans rfl) (by decide +kernel) (by decide +kernel) (by decide +kernel) (fun _ _ _ h => h) ?_ (by assumption) ?_
                      · exact yieldsIf_load_mid (by rfl) 28 _ (by rfl) b15 0 (by rfl) (ringC (Ck.vic t)) _ (fun _ h => h.1) Try.underlying28 (by rfl) HSV.out.sizeL
                      simp only [Act.put, List.setIfInBounds_toArray, List.set_cons_zero, List.set_cons_succ]
                      refine wpAnyH_take (i := 15) (v := ?_) (List.getElem?_toArray.trans rfl) (by decide +kernel) (by decide +kernel) (by decide +kernel) (fun _ _ _ h => h) (Or.inl ⟨by rfl, ?_⟩) (by assumption) ?_
                      case refine_2 => (intro w hSw; (try dsimp only at hSw); clear hSw; go_simp <;> with_reducible rfl)
                      simp only [Act.put, List.setIfInBounds_toArray, List.set_cons_zero, List.set_cons_succ]
                      refine wpAnyH_ready (rs := [16]) (by decide +kernel) (by simp) ?_
                      refine AllReadyH.cons (List.getElem?_toArray.trans rfl) (fun K hK => ?_) AllReadyH.nil
                      go_simp
                      go_at_call 14; (with_reducible refine (cmk _).mono ?_); rintro e wd ⟨rfl, hbn⟩; replace HB1 := Lib.hid (HB1.out.trans (hbn.mono HB1.out.size)); have hP := HPT.out _ HB1.out; clear hbn
                      refine hK.out _ _ hP (fun hHeld => ?_)
                      clear hK K
                      refine wpAnyH_take (i := 17) (v := ?_) (List.getElem?_toArray.trans rfl) (by decide +kernel) (by decide +kernel) (by decide +kernel) (fun _ _ _ h => h) (Or.inl ⟨by rfl, ?_⟩) (by assumption) ?_
                      case refine_2 => (intro w hSw; (try dsimp only at hSw); clear hSw; go_simp <;> with_reducible rfl)
                      simp only [Act.put, List.setIfInBounds_toArray, List.set_cons_zero, List.set_cons_succ]
                      refine wpAnyH_take (i := 18) (v := ?_) (List.getElem?_toArray.trans rfl) (by decide +kernel) (by decide +kernel) (by decide +kernel) (fun _ _ _ h => h) (Or.inl ⟨by rfl, ?_⟩) (by assumption) ?_
                      case refine_2 => (intro w hSw; (try dsimp only at hSw); clear hSw; go_simp <;> with_reducible rfl)
                      simp only [Act.put, List.setIfInBounds_toArray, List.set_cons_zero, List.set_cons_succ]
                      refine wpAnyH_take (i := 19) (v := ?_) (List.getElem?_toArray.trans rfl) (by decide +kernel) (by decide +kernel) (by decide +kernel) (fun _ _ _ h => h) (Or.inl ⟨by rfl, ?_⟩) (by assumption) ?_
                      case refine_2 => (intro w hSw; (try dsimp only at hSw); clear hSw; go_simp <;> with_reducible rfl)
                      simp only [Act.put, List.setIfInBounds_toArray, List.set_cons_zero, List.set_cons_succ]
                      refine wpAnyH_take (i := 20) (v := ?_) (List.getElem?_toArray.trans rfl) (by decide +kernel) (by decide +kernel) (by decide +kernel) (fun _ _ _ h => h) (Or.inl ⟨by rfl, ?_⟩) (by assumption) ?_
                      case refine_2 => (intro w hSw; (try dsimp only at hSw); clear hSw; go_simp <;> with_reducible rfl)
                      simp only [Act.put, List.setIfInBounds_toArray, List.set_cons_zero, List.set_cons_succ]
                      refine wpAnyH_take (i := 21) (v := ?_) (List.getElem?_toArray.trans rfl) (by decide +kernel) (by decide +kernel) (by decide +kernel) (fun _ _ _ h => h) (Or.inl ⟨by rfl, ?_⟩) (by assumption) ?_
                      case refine_2 => (intro w hSw; (try dsimp only at hSw); clear hSw; go_simp <;> with_reducible rfl)
                      simp only [Act.put, List.setIfInBounds_toArray, List.set_cons_zero, List.set_cons_succ]
                      refine wpAnyH_take (i := 22) (v := ?_) (List.getElem?_toArray.trans rfl) (by decide +kernel) (by decide +kernel) (by decide +kernel) (fun _ _ _ h => h) (Or.inl ⟨by rfl, ?_⟩) (by assumption) ?_
                      case refine_2 => (intro w hSw; obtain ⟨hSa, hSb, hSc, hSd⟩ := hSw; clear hSa hSb; go_simp <;> with_reducible rfl)
                      simp only [Act.put, List.setIfInBounds_toArray, List.set_cons_zero, List.set_cons_succ]
                      refine wpAnyH_take (i := 23) (v := ?_) (List.getElem?_toArray.trans rfl) (by decide +kernel) (by decide +kernel) (by decide +kernel) (fun _ _ _ h => h) (Or.inl ⟨by rfl, ?_⟩) (by assumption) ?_
                      case refine_2 => (intro w hSw; (try dsimp only at hSw); clear hSw; go_simp <;> with_reducible rfl)
                      simp only [Act.put, List.setIfInBounds_toArray, List.set_cons_zero, List.set_cons_succ]
                      refine wpAnyH_take (i := 24) (v := ?_) (List.getElem?_toArray.trans rfl) (by decide +kernel) (by decide +kernel) (by decide +kernel) (fun _ _ _ h => h) (Or.inl ⟨by rfl, ?_⟩) (by assumption) ?_
                      case refine_2 => (intro w hSw; (try dsimp only at hSw); clear hSw; go_simp <;> with_reducible rfl)
                      simp only [Act.put, List.setIfInBounds_toArray, List.set_cons_zero, List.set_cons_succ]
                      refine wpAnyH_take (i := 25) (v := ?_) (List.getElem?_toArray.trans rfl) (by decide +kernel) (by decide +kernel) (by decide +kernel) (fun _ _ _ h => h) (Or.inl ⟨by rfl, ?_⟩) (by assumption) ?_
                      case refine_2 => (intro w hSw; (try dsimp only at hSw); clear hSw; go_simp <;> with_reducible rfl)
                      simp only [Act.put, List.setIfInBounds_toArray, List.set_cons_zero, List.set_cons_succ]
                      refine wpAnyH_take (i := 26) (v := ?_) (List.getElem?_toArray.trans rfl) (by decide +kernel) (by decide +kernel) (by decide +kernel) (fun _ _ _ h => h) (Or.inl ⟨by rfl, ?_⟩) (by assumption) ?_
                      case refine_2 => (intro w hSw; (try dsimp only at hSw); clear hSw; go_simp <;> with_reducible rfl)
                      simp only [Act.put, List.setIfInBounds_toArray, List.set_cons_zero, List.set_cons_succ]
                      refine wpAnyH_take (i := 27) (v := ?_) (List.getElem?_toArray.trans rfl) (by decide +kernel) (by decide +kernel) (by decide +kernel) (fun _ _ _ h => h) (Or.inl ⟨by rfl, ?_⟩) (by assumption) ?_
                      case refine_2 => (intro w hSw; (try dsimp only at hSw); clear hSw; go_simp <;> with_reducible rfl)
                      simp only [Act.put, List.setIfInBounds_toArray, List.set_cons_zero, List.set_cons_succ]
                      refine wpAnyH_take (i := 28) (v := ?_) (List.getElem?_toArray.trans rfl) (by decide +kernel) (by decide +kernel) (by decide +kernel) (fun _ _ _ h => h) (Or.inl ⟨by rfl, ?_⟩) (by assumption) ?_
                      case refine_2 => (intro w hSw; (try dsimp only at hSw); clear hSw; go_simp <;> with_reducible rfl)
                      simp only [Act.put, List.setIfInBounds_toArray, List.set_cons_zero, List.set_cons_succ]
                      refine wpAnyH_take (i := 29) (v := ?_) (List.getElem?_toArray.trans rfl) (by decide +kernel) (by decide +kernel) (by decide +kernel) (fun _ _ _ h => h) (Or.inl ⟨by rfl, ?_⟩) (by assumption) ?_
                      case refine_2 => (intro w hSw; (try dsimp only at hSw); clear hSw; go_simp <;> with_reducible rfl)
                      simp only [Act.put, List.setIfInBounds_toArray, List.set_cons_zero, List.set_cons_succ]
                      refine wpAnyH_take (i := 30) (v := ?_) (List.getElem?_toArray.trans rfl) (by decide +kernel) (by decide +kernel) (by decide +kernel) (fun _ _ _ h => h) (Or.inl ⟨by rfl, ?_⟩) (by assumption) ?_
                      case refine_2 => (intro w hSw; obtain ⟨hSa, hSb, hSc, hSd⟩ := hSw; clear hSa hSb; go_simp <;> with_reducible rfl)
                      simp only [Act.put, List.setIfInBounds_toArray, List.set_cons_zero, List.set_cons_succ]
                      refine wpAnyH_take (i := 31) (v := ?_) (List.getElem?_toArray.trans rfl) (by decide +kernel) (by decide +kernel) (by decide +kernel) (fun _ _ _ h => h) (Or.inl ⟨by rfl, ?_⟩) (by assumption) ?_
                      case refine_2 => (intro w hSw; (try dsimp only at hSw); clear hSw; go_simp <;> with_reducible rfl)
                      simp only [Act.put, List.setIfInBounds_toArray, List.set_cons_zero, List.set_cons_succ]
                      refine wpAnyH_take (i := 32) (v := ?_) (List.getElem?_toArray.trans rfl) (by decide +kernel) (by decide +kernel) (by decide +kernel) (fun _ _ _ h => h) (Or.inl ⟨by rfl, ?_⟩) (by assumption) ?_
                      case refine_2 => (intro w hSw; (try dsimp only at hSw); clear hSw; go_simp <;> with_reducible rfl)
                      simp only [Act.put, List.setIfInBounds_toArray, List.set_cons_zero, List.set_cons_succ]
                      refine wpAnyH_take (i := 33) (v := ?_) (List.getElem?_toArray.trans rfl) (by decide +kernel) (by decide +kernel) (by decide +kernel) (fun _ _ _ h => h) (Or.inl ⟨by rfl, ?_⟩) (by assumption) ?_
                      case refine_2 => (intro w hSw; (try dsimp only at hSw); clear hSw; go_simp <;> with_reducible rfl)
                      simp only [Act.put, List.setIfInBounds_toArray, List.set_cons_zero, List.set_cons_succ]
                      refine wpAnyH_take (i := 34) (v := .agg (ringC (Ck.vic t)).toArray) (List.getElem?_toArray.trans rfl) (by decide +kernel) (by decide +kernel) (by decide +kernel) (fun _ _ _ h => h) ?_ (by assumption) ?_
                      · exact yieldsIf_load_mid (by rfl) 28 _ (by rfl) b15 0 (by rfl) (ringC (Ck.vic t)) _ (fun _ h => h.1) Try.underlying28 (by rfl) HSV.out.sizeL
                      simp only [Act.put, List.setIfInBounds_toArray, List.set_cons_zero, List.set_cons_succ]
                      refine wpAnyH_take (i := 36) (v := .agg (ringC m).toArray) (List.getElem?_toArray.trans rfl) (by decide +kernel) (by decide +kernel) (by decide +kernel) (fun _ _ _ h => h) ?_ (by assumption) ?_
                      · exact yieldsIf_load_mid (by rfl) 28 _ (by rfl) b 0 (by rfl) (ringC m) _ (fun _ h => h.2.1) Try.underlying28 (by rfl) HSM.out.sizeL
                      simp only [Act.put, List.setIfInBounds_toArray, List.set_cons_zero, List.set_cons_succ]
                      refine wpAnyH_ready (rs := [35]) (by decide +kernel) (by simp) ?_
                      refine AllReadyH.cons (List.getElem?_toArray.trans rfl) (fun K hK => ?_) AllReadyH.nil
                      go_simp
                      go_at_call 17; (first | (with_reducible refine (cl15 _).mono ?_) | (with_reducible refine (cl _).mono ?_)); rintro e wd ⟨rfl, hbn⟩; replace HB1 := Lib.hid (HB1.out.trans (hbn.mono HB1.out.size)); have hP := HPT.out _ HB1.out; clear hbn
                      refine hK.out _ _ hP (fun hHeld => ?_)
                      clear hK K
                      refine wpAnyH_ready (rs := [37]) (by decide +kernel) (by simp) ?_
                      refine AllReadyH.cons (List.getElem?_toArray.trans rfl) (fun K hK => ?_) AllReadyH.nil
                      go_simp
                      go_at_call 17; (first | (with_reducible refine (cl15 _).mono ?_) | (with_reducible refine (cl _).mono ?_)); rintro e wd ⟨rfl, hbn⟩; replace HB1 := Lib.hid (HB1.out.trans (hbn.mono HB1.out.size)); have hP := HPT.out _ HB1.out; clear hbn
                      refine hK.out _ _ hP (fun hHeld => ?_)
                      clear hK K
                      refine wpAnyH_take (i := 38) (v := ?_) (List.getElem?_toArray.trans rfl) (by decide +kernel) (by decide +kernel) (by decide +kernel) (fun _ _ _ h => h) (Or.inl ⟨by rfl, ?_⟩) (by assumption) ?_
                      case refine_2 => (intro w hSw; (try dsimp only at hSw); clear hSw; go_simp <;> with_reducible rfl)
                      simp only [Act.put, List.setIfInBounds_toArray, List.set_cons_zero, List.set_cons_succ]
                      refine wpAnyH_take (i := 39) (v := ?_) (List.getElem?_toArray.trans rfl) (by decide +kernel) (by decide +kernel) (by decide +kernel) (fun _ _ _ h => h) (Or.inl ⟨by rfl, ?_⟩) (by assumption) ?_
                      case refine_2 => (intro w hSw; (try dsimp only at hSw); clear hSw; go_simp <;> with_reducible rfl)
                      simp only [Act.put, List.setIfInBounds_toArray, List.set_cons_zero, List.set_cons_succ]
                      refine wpAnyH_take (i := 40) (v := ?_) (List.getElem?_toArray.trans rfl) (by decide +kernel) (by decide +kernel) (by decide +kernel) (fun _ _ _ h => h) (Or.inl ⟨by rfl, ?_⟩) (by assumption) ?_
                      case refine_2 => (intro w hSw; (try dsimp only at hSw); clear hSw; go_simp <;> with_reducible rfl)
                      simp only [Act.put, List.setIfInBounds_toArray, List.set_cons_zero, List.set_cons_succ]
                      refine wpAnyH_done (by decide +kernel) ?_ _
                      go_wp2_with fail
                      go_ret
                      exact ⟨rfl, HEE.out _ HB1.out⟩
end Go.Proofs.Ytlhkcfhhgcmieaa
