/-
  Same: two indices of the program held against each other.
-/
import Derived.Test.YtcmhodimkpkmbaaDoorIxSame
namespace Go.Proofs.YtcmhodimkpkmbaaDoor
open Go.ChangeShapes Go.WideShapes Go.ChangeAt Go.RowKit
set_option maxRecDepth 100000

/-- two indices tell the same -/
def sameI (S T : Ix.St) : Bool := (List.range 16).all fun k => slotB (S k) (T k)
theorem sameI_iff {S T : Ix.St} (hS : Ix.Ok S) (hT : Ix.Ok T) : sameI S T = true ↔ ∀ k, k < 16 → S k = T k := by
  unfold sameI
  rw [List.all_eq_true]
  exact ⟨fun h k hk => (slotB_iff (hS k) (hT k)).1 (h k (by simpa using hk)), fun h k hk => (slotB_iff (hS k) (hT k)).2 (h k (by simpa using hk))⟩
theorem slot_at {W : World} {b : Nat} {S : Ix.St} {M : Nat → Value} (h : IxBox W b (ixP S M)) {k : Nat} (hk : k < 16) {s : Ix.Sl} {v : Value} (hs : S k = s) (hv : M k = v) :
    W.cell? ⟨b, k * 11, none⟩ = some (.int .i64 s.bind.obj) ∧ W.cell? ⟨b, k * 11 + 1, none⟩ = some (.int .i64 s.bind.gen) ∧ W.cell? ⟨b, k * 11 + 2, none⟩ = some (.string s.bind.tag) ∧ W.cell? ⟨b, k * 11 + 3, none⟩ = some (.int .i64 s.bind.len) ∧ W.cell? ⟨b, k * 11 + 4, none⟩ = some (.int .i64 s.bind.tick) ∧ W.cell? ⟨b, k * 11 + 5, none⟩ = some v ∧
      W.cell? ⟨b, k * 11 + 6, none⟩ = some (.int .i64 s.at_.1) ∧ W.cell? ⟨b, k * 11 + 7, none⟩ = some (.int .i64 s.at_.2) ∧ W.cell? ⟨b, k * 11 + 8, none⟩ = some (.int .i64 s.fl) ∧ W.cell? ⟨b, k * 11 + 9, none⟩ = some (.int .i64 s.tomb.1) ∧ W.cell? ⟨b, k * 11 + 10, none⟩ = some (.int .i64 s.tomb.2) := by
  subst hs hv
  have hr := sp_range h hk
  exact ⟨hr 0 _ rfl, hr 1 _ rfl, hr 2 _ rfl, hr 3 _ rfl, hr 4 _ rfl, hr 5 _ rfl, hr 6 _ rfl, hr 7 _ rfl, hr 8 _ rfl, hr 9 _ rfl, hr 10 _ rfl⟩
/-- where Same stands -/
structure Smw (w wr : World) (S T : Ix.St) (ct : List Value) (k : Nat) : Prop where
  same : ∀ j, j < k → S j = T j
  box : IxBox wr (w.heap.size + 1) ct
  below : Below w.heap.size w wr
set_option maxHeartbeats 4000000 in
theorem lxSame_any {own1 own2 : Nat → Prop} {w : World} {cs ct : List Value} {S T : Ix.St} (h : LIx own1 w cs S) (g : LIx own2 w ct T) (hS : Ix.Ok S) (hT : Ix.Ok T) :
    Calls Tryd.prog 12 #[.agg cs.toArray, .agg ct.toArray] w fun e w' => e = .returned (.bool (sameI S T)) ∧ Below w.heap.size w w' := by
  obtain ⟨M, rfl, h1, h2⟩ := h
  obtain ⟨N, rfl, g1, g2⟩ := g
  obtain ⟨q, hq⟩ : ∃ q, q = sameI S T := ⟨_, rfl⟩
  have HQ := Lib.hid hq
  rw [← hq]
  have HIX := Lib.hid (fun k hk W => slot_index S M (k := k) hk W)
  have HMO := Lib.hid (fun k hk => (h1 k hk).map)
  have HNO := Lib.hid (fun k hk => (g1 k hk).map)
  have H1 := Lib.hid h1
  have G1 := Lib.hid g1
  have HOS := Lib.hid hS
  have HOT := Lib.hid hT
  have hcl := ixP_length S M
  have HAT := Lib.hid (fun (W : World) (b : Nat) (hb : IxBox W b (ixP T N)) (k : Nat) (hk : k < 16) (s : Ix.Sl) (v : Value) (e1 : T k = s) (e2 : N k = v) => slot_at hb hk e1 e2)
  have hb0 : Below w.heap.size w ((w.alloc (.cells (ixP S M).toArray 35)).alloc (.cells (ixP T N).toArray 35)) := ((Below.refl _ w).alloc (Nat.le_refl _) _).alloc (by simp) _
  have HB := Lib.hid hb0
  have HRG : Hid (((w.alloc (.cells (ixP S M).toArray 35)).alloc (.cells (ixP T N).toArray 35)).rangeAt w.heap.size 0 (ixP S M)) := Lib.hid (IxBox.range ((Below.heap_alloc _ _ _ (by simp)).trans (heap_alloc_new w _)))
  have HX : Hid (IxBox ((w.alloc (.cells (ixP S M).toArray 35)).alloc (.cells (ixP T N).toArray 35)) (w.heap.size + 1) (ixP T N)) := Lib.hid (by
    have h9 := heap_alloc_new (w.alloc (.cells (ixP S M).toArray 35)) (.cells (ixP T N).toArray 35)
    rwa [World.size_alloc] at h9)
  generalize ixP S M = cs at *
  generalize ixP T N = ct at *
  have HSZ : Hid ((Tryd.prog.info? 33).map (·.size) = some cs.length) := Lib.hid (by rw [hcl]; exact arr_size)
  clear h1 h2 g1 g2 hS hT hcl hb0 hq
  go_enter Tryd.func12, Tryd.ntmps12
  go_wp2_with (refine wpList_load_mid (by rfl) 33 (.tmp 7) (by rfl) w.heap.size 0 (by rfl) cs _ HRG.out Tryd.underlying33 (by rfl) HSZ.out ?_)
  go_loopw [5, 6, 9] (fun _ _ i wr => ∃ k : Nat, k ≤ 16 ∧ i = .int .i64 k ∧ Hid (Smw w wr S T ct k)) (fun _ _ i _ => 16 - (intOf i).toNat)
  case atStart => exact ⟨0, by omega, rfl, Lib.hid ⟨fun j hj => absurd hj (by omega), HX.out, HB.out⟩⟩
  case round =>
    obtain ⟨k, hk, rfl, HO⟩ := hrel
    by_cases hlt : k < 16
    · have d1 : decide ((k : Int) < 16) = true := decide_eq_true (by omega)
      obtain ⟨m1, hm1⟩ := HMO.out k hlt
      obtain ⟨m2, hm2⟩ := HNO.out k hlt
      have hix := fun W => HIX.out k hlt W
      rw [hm1] at hix
      obtain ⟨s, hs⟩ : ∃ s, s = S k := ⟨_, rfl⟩
      obtain ⟨t, ht⟩ : ∃ t, t = T k := ⟨_, rfl⟩
      obtain ⟨wa, hwa⟩ : ∃ wa, wa = wr.alloc (spO s (.map m1)) := ⟨_, rfl⟩
      have hba : Below wr.heap.size wr wa := by rw [hwa]; exact (Below.refl _ wr).alloc (Nat.le_refl _) _
      have hma : wa.heap[wr.heap.size]? = some (spO s (.map m1)) := by rw [hwa]; exact heap_alloc_new wr _
      have hbw := HO.out.below.trans (hba.mono HO.out.below.size)
      have hxa := HO.out.box.below hba
      have hos : Ix.Ok1 s := by rw [hs]; exact HOS.out k
      have hot : Ix.Ok1 t := by rw [ht]; exact HOT.out k
      have cc := slotSame_any hos hot (w := wa.drew) (m1 := m1) (m2 := m2) (by have := (H1.out k hlt).below hbw; rw [hm1, ← hs] at this; exact this) (by have := (G1.out k hlt).below hbw; rw [hm2, ← ht] at this; exact this)
      have HQS := Lib.hid (slotB_iff hos hot)
      obtain ⟨q1, hq1⟩ : ∃ q1, q1 = slotB s t := ⟨_, rfl⟩
      rw [← hq1] at cc HQS
      have HST := Lib.hid hs
      have HTT := Lib.hid ht
      have HXA := Lib.hid hxa
      have HMA := Lib.hid hma
      have HBW := Lib.hid hbw
      have hAT := fun W (hB : Below wa.heap.size wa W) => HAT.out W _ (hxa.below hB) k hlt t (.map m2) ht.symm hm2
      rw [← hs] at hix
      clear hs ht hba hxa hma hbw hos hot hq1 hm1 hm2
      obtain ⟨sb, ⟨so, sg, stg, sln, stk⟩, ⟨s1, s2⟩, sl, fl, ⟨t1, t2⟩⟩ := s
      obtain ⟨ub, ⟨uo, ug, utg, uln, utk⟩, ⟨u1, u2⟩, ul, ufl, ⟨y1, y2⟩⟩ := t
      dsimp only at hix cc hAT
      go_wp2_with fail
      dsimp only [spO] at hwa
      rw [← hwa]
      clear hwa
      have HP0 : Hid ((fun W : World => (W.cell? ⟨wr.heap.size, 0, none⟩ = some (.int .i64 so) ∧ W.cell? ⟨wr.heap.size, 1, none⟩ = some (.int .i64 sg) ∧ W.cell? ⟨wr.heap.size, 2, none⟩ = some (.string stg) ∧ W.cell? ⟨wr.heap.size, 3, none⟩ = some (.int .i64 sln) ∧ W.cell? ⟨wr.heap.size, 4, none⟩ = some (.int .i64 stk) ∧ W.cell? ⟨wr.heap.size, 5, none⟩ = some (.map m1) ∧ W.cell? ⟨wr.heap.size, 6, none⟩ = some (.int .i64 s1) ∧ W.cell? ⟨wr.heap.size, 7, none⟩ = some (.int .i64 s2) ∧ W.cell? ⟨wr.heap.size, 8, none⟩ = some (.int .i64 fl) ∧ W.cell? ⟨wr.heap.size, 9, none⟩ = some (.int .i64 t1) ∧ W.cell? ⟨wr.heap.size, 10, none⟩ = some (.int .i64 t2)) ∧ (W.cell? ⟨w.heap.size + 1, k * 11, none⟩ = some (.int .i64 uo) ∧ W.cell? ⟨w.heap.size + 1, k * 11 + 1, none⟩ = some (.int .i64 ug) ∧ W.cell? ⟨w.heap.size + 1, k * 11 + 2, none⟩ = some (.string utg) ∧ W.cell? ⟨w.heap.size + 1, k * 11 + 3, none⟩ = some (.int .i64 uln) ∧ W.cell? ⟨w.heap.size + 1, k * 11 + 4, none⟩ = some (.int .i64 utk) ∧ W.cell? ⟨w.heap.size + 1, k * 11 + 5, none⟩ = some (.map m2) ∧ W.cell? ⟨w.heap.size + 1, k * 11 + 6, none⟩ = some (.int .i64 u1) ∧ W.cell? ⟨w.heap.size + 1, k * 11 + 7, none⟩ = some (.int .i64 u2) ∧ W.cell? ⟨w.heap.size + 1, k * 11 + 8, none⟩ = some (.int .i64 ufl) ∧ W.cell? ⟨w.heap.size + 1, k * 11 + 9, none⟩ = some (.int .i64 y1) ∧ W.cell? ⟨w.heap.size + 1, k * 11 + 10, none⟩ = some (.int .i64 y2))) wa.drew) := Lib.hid (⟨cells11 HMA.out, hAT wa.drew ((Below.refl _ _).drew)⟩)
      have hk0 : (0 : Int) ≤ (k : Int) := by omega
      have hk1 : (k : Int) < 16 := by omega
      go_region_held3 (fun W => (W.cell? ⟨wr.heap.size, 0, none⟩ = some (.int .i64 so) ∧ W.cell? ⟨wr.heap.size, 1, none⟩ = some (.int .i64 sg) ∧ W.cell? ⟨wr.heap.size, 2, none⟩ = some (.string stg) ∧ W.cell? ⟨wr.heap.size, 3, none⟩ = some (.int .i64 sln) ∧ W.cell? ⟨wr.heap.size, 4, none⟩ = some (.int .i64 stk) ∧ W.cell? ⟨wr.heap.size, 5, none⟩ = some (.map m1) ∧ W.cell? ⟨wr.heap.size, 6, none⟩ = some (.int .i64 s1) ∧ W.cell? ⟨wr.heap.size, 7, none⟩ = some (.int .i64 s2) ∧ W.cell? ⟨wr.heap.size, 8, none⟩ = some (.int .i64 fl) ∧ W.cell? ⟨wr.heap.size, 9, none⟩ = some (.int .i64 t1) ∧ W.cell? ⟨wr.heap.size, 10, none⟩ = some (.int .i64 t2)) ∧ (W.cell? ⟨w.heap.size + 1, k * 11, none⟩ = some (.int .i64 uo) ∧ W.cell? ⟨w.heap.size + 1, k * 11 + 1, none⟩ = some (.int .i64 ug) ∧ W.cell? ⟨w.heap.size + 1, k * 11 + 2, none⟩ = some (.string utg) ∧ W.cell? ⟨w.heap.size + 1, k * 11 + 3, none⟩ = some (.int .i64 uln) ∧ W.cell? ⟨w.heap.size + 1, k * 11 + 4, none⟩ = some (.int .i64 utk) ∧ W.cell? ⟨w.heap.size + 1, k * 11 + 5, none⟩ = some (.map m2) ∧ W.cell? ⟨w.heap.size + 1, k * 11 + 6, none⟩ = some (.int .i64 u1) ∧ W.cell? ⟨w.heap.size + 1, k * 11 + 7, none⟩ = some (.int .i64 u2) ∧ W.cell? ⟨w.heap.size + 1, k * 11 + 8, none⟩ = some (.int .i64 ufl) ∧ W.cell? ⟨w.heap.size + 1, k * 11 + 9, none⟩ = some (.int .i64 y1) ∧ W.cell? ⟨w.heap.size + 1, k * 11 + 10, none⟩ = some (.int .i64 y2)))
        (first | (with_reducible exact HP0.out) | (with_reducible exact HP1.out))
        (first | (go_at_call 39; (with_reducible refine cc.mono ?_); rintro e w3 ⟨rfl, hb3⟩; have hb9 : Below wa.heap.size wa w3 := ((Below.refl _ wa).drew).trans hb3; have HB3 := Lib.hid (HBW.out.trans (hb9.mono HBW.out.size)); have HX3 := Lib.hid (HXA.out.below hb9); have HP1 : Hid ((fun W : World => (W.cell? ⟨wr.heap.size, 0, none⟩ = some (.int .i64 so) ∧ W.cell? ⟨wr.heap.size, 1, none⟩ = some (.int .i64 sg) ∧ W.cell? ⟨wr.heap.size, 2, none⟩ = some (.string stg) ∧ W.cell? ⟨wr.heap.size, 3, none⟩ = some (.int .i64 sln) ∧ W.cell? ⟨wr.heap.size, 4, none⟩ = some (.int .i64 stk) ∧ W.cell? ⟨wr.heap.size, 5, none⟩ = some (.map m1) ∧ W.cell? ⟨wr.heap.size, 6, none⟩ = some (.int .i64 s1) ∧ W.cell? ⟨wr.heap.size, 7, none⟩ = some (.int .i64 s2) ∧ W.cell? ⟨wr.heap.size, 8, none⟩ = some (.int .i64 fl) ∧ W.cell? ⟨wr.heap.size, 9, none⟩ = some (.int .i64 t1) ∧ W.cell? ⟨wr.heap.size, 10, none⟩ = some (.int .i64 t2)) ∧ (W.cell? ⟨w.heap.size + 1, k * 11, none⟩ = some (.int .i64 uo) ∧ W.cell? ⟨w.heap.size + 1, k * 11 + 1, none⟩ = some (.int .i64 ug) ∧ W.cell? ⟨w.heap.size + 1, k * 11 + 2, none⟩ = some (.string utg) ∧ W.cell? ⟨w.heap.size + 1, k * 11 + 3, none⟩ = some (.int .i64 uln) ∧ W.cell? ⟨w.heap.size + 1, k * 11 + 4, none⟩ = some (.int .i64 utk) ∧ W.cell? ⟨w.heap.size + 1, k * 11 + 5, none⟩ = some (.map m2) ∧ W.cell? ⟨w.heap.size + 1, k * 11 + 6, none⟩ = some (.int .i64 u1) ∧ W.cell? ⟨w.heap.size + 1, k * 11 + 7, none⟩ = some (.int .i64 u2) ∧ W.cell? ⟨w.heap.size + 1, k * 11 + 8, none⟩ = some (.int .i64 ufl) ∧ W.cell? ⟨w.heap.size + 1, k * 11 + 9, none⟩ = some (.int .i64 y1) ∧ W.cell? ⟨w.heap.size + 1, k * 11 + 10, none⟩ = some (.int .i64 y2))) w3) := Lib.hid (⟨cells11 ((hb9.block _ (lt_of_at HMA.out)).trans HMA.out), hAT w3 hb9⟩); clear hb3 hb9) | fail)
      have HSM : Hid (q1 = true → Smw w w3 S T ct (k + 1)) := Lib.hid fun e => ⟨fun j hj => by
        by_cases ej : j = k
        · subst ej
          rw [← HST.out, ← HTT.out]
          exact HQS.out.1 e
        · exact HO.out.same j (by omega), HX3.out, HB3.out⟩
      have HNO2 : Hid (q1 = false → q = false) := Lib.hid fun e => by
        cases hqq : q
        · rfl
        · have h9 := HQ.out
          rw [hqq] at h9
          have h8 := (sameI_iff HOS.out HOT.out).1 h9.symm k hlt
          rw [← HST.out, ← HTT.out] at h8
          have h7 := HQS.out.2 h8
          rw [e] at h7
          cases h7
      cases q1
      · have HE := Lib.hid (HNO2.out rfl)
        clear HNO2 HSM
        go_wp2
        go_ret
        exact ⟨by rw [HE.out]; rfl, HB3.out⟩
      · have HE := Lib.hid (HSM.out rfl)
        clear HNO2 HSM
        go_wp2
        go_roundw
        case rel => exact ⟨k + 1, by omega, by go_num, HE⟩
        case measure => simp [intOf]; omega
    · have d1 : decide ((k : Int) < 16) = false := decide_eq_false (by omega)
      have HE : Hid (q = true) := Lib.hid (HQ.out.trans ((sameI_iff HOS.out HOT.out).2 fun j hj => HO.out.same j (by omega)))
      go_wp2
      go_ret
      exact ⟨by rw [HE.out]; rfl, HO.out.below⟩
end Go.Proofs.YtcmhodimkpkmbaaDoor
