/-
  The walk of the statement on deeds: whoever is added, touched, removed, and chosen.
-/
import Derived.Test.YtlhkcfhhgcmieaaCkAll
import Derived.Test.YtlhkcfhhgcmieaaCkRef
import Derived.Test.YtlhkcfhhgcmieaaCkFull
import Derived.Test.YtlhkcfhhgcmieaaRefInts
namespace Go.Proofs.Ytlhkcfhhgcmieaa
open Go.ChangeShapes Go.WideShapes Go.ChangeAt Go.RowKit
set_option maxRecDepth 100000

/-- a row of deeds: kind and object each -/
def cdC (d : Int × Int) : List Value := [.int .i64 d.1, .int .i64 d.2]
def cdV (l : List (Int × Int)) : List Value := l.flatMap cdC
theorem cdV_cons (d : Int × Int) (l : List (Int × Int)) : cdV (d :: l) = .int .i64 d.1 :: .int .i64 d.2 :: cdV l := rfl
theorem cdV_length (l : List (Int × Int)) : (cdV l).length = l.length * 2 := by
  induction l with
  | nil => rfl
  | cons x l ih => rw [cdV_cons]; simp only [List.length_cons, ih]; omega
theorem cdV_get : ∀ (l : List (Int × Int)) (k : Nat) (h : k < l.length), (cdV l)[k * 2]? = some (.int .i64 l[k].1) ∧ (cdV l)[k * 2 + 1]? = some (.int .i64 l[k].2)
  | [], k, h => absurd h (by simp)
  | x :: l, 0, _ => ⟨rfl, rfl⟩
  | x :: l, k + 1, h => by
    have := cdV_get l k (by simpa using h)
    rw [cdV_cons]
    have e : (k + 1) * 2 = k * 2 + 1 + 1 := by omega
    rw [e]
    simpa using this
/-- deeds as they come in -/
abbrev Cds (w : World) (B : Nat) (A : Option Addr) (n : Nat) (L : List (Int × Int)) : Prop := Vs w B A (n * 2) (cdV L)
theorem Cds.at {w : World} {B n : Nat} {A : Option Addr} {L : List (Int × Int)} (h : Cds w B A n L) {k : Nat} (hk : k < n) : ∃ g off x y, A = some ⟨g, off, none⟩ ∧ g < B ∧ w.cell? ⟨g, off + k * 2, none⟩ = some (.int .i64 x) ∧ w.cell? ⟨g, off + k * 2 + 1, none⟩ = some (.int .i64 y) := by
  have hl : L.length = n := by have := h.1; rw [cdV_length] at this; omega
  obtain ⟨g, off, e, hB, hc⟩ := h.2 (by omega)
  have h1 := hc (k * 2) (by rw [cdV_length]; omega)
  have h2 := hc (k * 2 + 1) (by rw [cdV_length]; omega)
  rw [← List.getElem?_eq_getElem] at h1 h2
  obtain ⟨g1, g2⟩ := cdV_get L k (by omega)
  rw [g1] at h1
  rw [g2] at h2
  exact ⟨g, off, L[k].1, L[k].2, e, hB, h1, by rw [← h2]; congr 2⟩
/-- what a round stands on: the ring in its variable, the document's row beside it -/
structure CkIn (w W : World) (b : Nat) (v : Value) (m : List Ck.Sit) : Prop where
  ok : Ck.Ok m
  row : SitRow W w.heap.size v m
  box : Bx W b 28 (ringC m)
  below : Below w.heap.size w W
  far : w.heap.size ≤ b
theorem CkIn.on {w W W' : World} {b : Nat} {v : Value} {m : List Ck.Sit} (h : CkIn w W b v m) (hb : Below W.heap.size W W') : CkIn w W' b v m :=
  ⟨h.ok, h.row.below hb, h.box.below hb h.box.lt, h.below.trans (hb.mono h.below.size), h.far⟩
theorem ring_ne : 28 ≠ 36 := by decide
/-- the ring in its variable is another one -/
structure CkPut (w W : World) (b : Nat) (v : Value) (m m' : List Ck.Sit) : Prop where
  there : W.there b 0 (ringC m').toArray.size
  size : (Try.prog.info? 28).map (·.size) = some (ringC m').toArray.size
  one : (ringC m').toArray.all (·.oneCell') = true
  row : SitRow (W.setCells b 0 (ringC m')) w.heap.size v m
  box : Bx (W.setCells b 0 (ringC m')) b 28 (ringC m')
  below : Below w.heap.size w (W.setCells b 0 (ringC m'))
  keep : ∀ k, k ≠ b → (W.setCells b 0 (ringC m')).heap[k]? = W.heap[k]?
theorem CkIn.put {w W : World} {b : Nat} {v : Value} {m m' : List Ck.Sit} (h : CkIn w W b v m) (hl : m'.length ≤ 16) : CkPut w W b v m m' := by
  have hml := h.ok.len
  refine ⟨h.box.there (by simp [ringC_length hl, ringC_length hml]), by rw [ring_size]; simp [ringC_length hl], all_oneCell_toArray (ringC_cell m'), ?_, ?_, below_sets _ _ _ _ h.far h.below, fun k hk => heap_setCells _ _ _ _ _ hk⟩
  · exact h.row.other h.box ring_ne fun _ hi => heap_setCells _ _ _ _ _ hi
  · have h1 := setCells_bx b 28 (ringC m') (ringC m) [] [] W (by rw [ringC_length hl, ringC_length hml]) (by simpa using h.box)
    simpa using h1
theorem SitRow.apart {W : World} {B g n c b : Nat} {l : List Ck.Sit} {C : List Value} (h : SitRow W B (.slice (some ⟨g, 0, none⟩) n c) l) (hb : Bx W b 28 C) : g ≠ b := fun e => by
  obtain ⟨g', e', -, cur, hx⟩ := h.lt rfl
  injection e' with e'
  subst e' e
  have k5 : W.heap[g]? = some (.cells cur.toArray 36 (0, 0)) := hx
  have k6 : W.heap[g]? = some (.cells C.toArray 28 (0, 0)) := hb
  rw [k5] at k6
  injection k6 with k6
  injection k6 with _ k6
  exact ring_ne k6.symm
theorem CkIn.touched {w W : World} {b g n c : Nat} {m : List Ck.Sit} {y : Int} (h : CkIn w W b (.slice (some ⟨g, 0, none⟩) n c) m) (hp : Ck.pos m y < m.length) (hP : CkPut w W b (.slice (some ⟨g, 0, none⟩) n c) m (Ck.touch m y)) :
    CkIn w ((W.setCells b 0 (ringC (Ck.touch m y))).setCell ⟨g, Ck.pos m y * 2 + 1, none⟩ (.bool true)) b (.slice (some ⟨g, 0, none⟩) n c) (Ck.touch m y) := by
  have hne : g ≠ b := h.row.apart h.box
  obtain ⟨g', e', hg, -⟩ := h.row.lt rfl
  injection e' with e'
  subst e'
  have h1 := hP.row.mark hp true
  rw [Ck.pos_at hp] at h1
  exact ⟨h.ok.touch y, h1, hP.box.far (fun e => hne e.symm) _, hP.below.setCell (p := ⟨g, _, none⟩) hg _, h.far⟩
/-- a method that changes nothing of the document's row -/
theorem CkIn.same {w W : World} {b : Nat} {v : Value} {m m' : List Ck.Sit} (h : CkIn w W b v m) (hP : CkPut w W b v m m') (e : m' = m) : CkIn w (W.setCells b 0 (ringC m')) b v m' :=
  ⟨e ▸ h.ok, by have h1 := hP.row; rw [e] at h1 ⊢; exact h1, hP.box, hP.below, h.far⟩
/-- the ring's variable set, and a call behind it that made the document's row anew -/
theorem CkPut.and {w W W6 : World} {b : Nat} {v v6 : Value} {m m' : List Ck.Sit} (hP : CkPut w W b v m m') (hf : w.heap.size ≤ b) (ok : Ck.Ok m') (hb : Below (W.setCells b 0 (ringC m')).heap.size (W.setCells b 0 (ringC m')) W6) (hr : SitRow W6 w.heap.size v6 m') : CkIn w W6 b v6 m' :=
  ⟨ok, hr, hP.box.below hb hP.box.lt, hP.below.trans (hb.mono hP.below.size), hf⟩
theorem CkIn.move {w W : World} {b : Nat} {v v' : Value} {m m' : List Ck.Sit} (h : CkIn w W b v m) (hr : SitRow W w.heap.size v' m') (ok : Ck.Ok m') : CkIn w (W.setCells b 0 (ringC m')) b v' m' :=
  ⟨ok, hr.other h.box ring_ne fun _ hi => heap_setCells _ _ _ _ _ hi, (h.put ok.len).box, (h.put ok.len).below, h.far⟩
set_option maxHeartbeats 4000000 in
theorem clockDoes_any (A : Option Addr) (n c : Nat) (L : List (Int × Int)) (o9 : Int) (w : World) (h : Cds w w.heap.size A n L) :
    Calls Try.prog 3 #[.slice A n c, .int .i64 o9] w fun e w' => e = .returned (.bool true) ∧ Below w.heap.size w w' := by
  have ka := awake_any w
  by_cases hn : 80 < n
  · have d1 : decide ((80 : Int) < (n : Int)) = true := decide_eq_true (by omega)
    clear h
    go_enter Try.func3, Try.ntmps3
    go_wp2_with (go_at_call 5; (with_reducible refine ka.mono ?_); rintro e w1 ⟨rfl, hb1⟩; have HB1 := Lib.hid hb1; clear hb1)
    go_ret
    exact ⟨rfl, HB1.out⟩
  have d1 : decide ((80 : Int) < (n : Int)) = false := decide_eq_false (by omega)
  have HA := Lib.hid h
  have hz := ring_zero
  have kn : ∀ W, Calls Try.prog 6 #[] W fun e w' => e = .returned (.agg (ringC []).toArray) ∧ Below W.heap.size W w' := new_any
  have HVAR : Hid (∀ W : World, (W.alloc (.cells (ringC []).toArray 28)).there W.heap.size 0 (ringC []).toArray.size ∧ Bx ((W.alloc (.cells (ringC []).toArray 28)).setCells W.heap.size 0 (ringC [])) W.heap.size 28 (ringC []) ∧ Below W.heap.size W ((W.alloc (.cells (ringC []).toArray 28)).setCells W.heap.size 0 (ringC []))) := Lib.hid fun W => ring_var (l := []) (by simp) W (ringC []) rfl
  have HSZ : Hid ((Try.prog.info? 28).map (·.size) = some (ringC []).toArray.size) := Lib.hid (by rw [ring_size]; rfl)
  have HON := Lib.hid (all_oneCell_toArray (ringC_cell []))
  have HZ0 : Hid (∃ z, z = ringC []) := Lib.hid ⟨_, rfl⟩
  obtain ⟨z0, hz0⟩ := HZ0.out
  rw [← hz0] at hz kn HVAR HSZ HON
  have HZE := Lib.hid hz0
  have HZL : Hid (z0.length = 33) := Lib.hid (by rw [hz0]; rfl)
  have HN := Lib.hid (show n ≤ 80 by omega)
  clear h hn hz0 HZ0
  go_enter Try.func3, Try.ntmps3
  go_wp2_with (first
    | (go_at_call 5; (with_reducible refine ka.mono ?_); rintro e w1 ⟨rfl, hb1⟩; have HB1 := Lib.hid hb1; clear hb1 ka)
    | (go_at_call 6; (with_reducible refine (kn _).mono ?_); rintro e w2 ⟨rfl, hb2⟩; have HB2 := Lib.hid (HB1.out.trans (hb2.mono HB1.out.size)); have HV2 := Lib.hid (HVAR.out w2); obtain ⟨b, hb⟩ : ∃ b, b = w2.heap.size := ⟨_, rfl⟩; have HBB := Lib.hid hb; clear hb hb2 kn)
    | (refine wpList_store_mid (by rfl) 28 (.tmp 5) (.tmp 24) (by rfl) w2.heap.size 0 z0.toArray (by rfl) (by rfl) HV2.out.1 HSZ.out HON.out ?_; rw [List.toList_toArray, ← HBB.out]))
  obtain ⟨wq, hwq⟩ : ∃ wq, wq = (w2.alloc (.cells z0.toArray 28)).setCells b 0 z0 := ⟨_, rfl⟩
  rw [← hwq]
  have HIN : Hid (CkIn w wq b (.slice none 0 0) []) := Lib.hid (by
    obtain ⟨h1, h2, h3⟩ := HV2.out
    rw [← HBB.out, ← hwq] at h2 h3
    rw [HZE.out] at h2
    rw [HBB.out] at h3 ⊢
    rw [HBB.out] at h2
    exact ⟨Ck.Ok.nil, SitRow.nil _ _, h2, HB2.out.trans (h3.mono HB2.out.size), HB2.out.size⟩)
  clear HV2 HVAR HSZ HON HZE HB1 HB2 HBB hwq
  go_loopw [6, 27] (fun v i wr => ∃ (k : Nat) (A1 : Option Addr) (n1 c1 : Nat) (m : List Ck.Sit), k ≤ n ∧ i = .int .i64 k ∧ v = .slice A1 n1 c1 ∧ Hid (CkIn w wr b (.slice A1 n1 c1) m)) (fun _ i _ => n - (intOf i).toNat)
  case atStart => exact ⟨0, none, 0, 0, [], by omega, rfl, rfl, HIN⟩
  case round =>
    clear HIN
    obtain ⟨k, A1, n1, c1, m, hk, rfl, rfl, HIN⟩ := hrel
    have hn80 : n ≤ 80 := HN.out
    by_cases hlt : k < n
    · obtain ⟨g, off, x, y, rfl, hgB, e1, e2⟩ := Cds.at HA.out hlt
      have e1 : wr.cell? ⟨g, off + k * 2, none⟩ = some (.int .i64 x) := (HIN.out.below.cell (p := ⟨g, off + k * 2, none⟩) hgB).trans e1
      have e2 : wr.cell? ⟨g, off + k * 2 + 1, none⟩ = some (.int .i64 y) := (HIN.out.below.cell (p := ⟨g, off + k * 2 + 1, none⟩) hgB).trans e2
      have hbp : Below wr.heap.size wr (wr.alloc (.cells #[.int .i64 x, .int .i64 y] 32)) := (Below.refl _ _).alloc (Nat.le_refl _) _
      have HINp := Lib.hid (HIN.out.on hbp)
      have hqb := Nat.ne_of_gt HIN.out.box.lt
      have hq := Bx.new wr [.int .i64 x, .int .i64 y] 32
      have hml := HIN.out.ok.len
      obtain ⟨hnm, hnc, hvs⟩ := HIN.out.row.cells
      have cp := place_any HINp.out.row (by omega) y
      have HD : Hid (∀ W, Below (wr.alloc (.cells #[.int .i64 x, .int .i64 y] 32)).heap.size (wr.alloc (.cells #[.int .i64 x, .int .i64 y] 32)) W → Bx W wr.heap.size 32 [.int .i64 x, .int .i64 y]) := Lib.hid fun W hb => hq.below hb hq.lt
      have HQB := Lib.hid hqb
      have HML := Lib.hid hml
      have HNM := Lib.hid hnm
      have hn1 : n1 ≤ 16 := by omega
      clear hq hbp hqb hml hnm hnc hvs
      --BR<
      by_cases h1 : x = 1
      · subst h1
        have ct : ∀ W, Calls Try.prog 8 #[.agg (ringC m).toArray, .int .i64 y] W fun e w' => e = .returned (.agg (ringC (Ck.touch m y)).toArray) ∧ Below W.heap.size W w' := fun W => touch_any HML.out y W
        have HPUT : Hid (∀ W, CkIn w W b (.slice A1 n1 c1) m → CkPut w W b (.slice A1 n1 c1) m (Ck.touch m y)) := Lib.hid fun W h => h.put (by rw [Ck.touch_length]; exact HML.out)
        have HSZ : Hid ((Try.prog.info? 28).map (·.size) = some (ringC m).length) := Lib.hid (by rw [ring_size, ringC_length HML.out])
        by_cases hp : Ck.pos m y < m.length
        · have hpl : placeI m y = (Ck.pos m y : Int) := if_pos hp
          rw [hpl] at cp
          obtain ⟨p, hpe⟩ : ∃ p, p = Ck.pos m y := ⟨_, rfl⟩
          rw [← hpe] at cp
          have hp1 : p < n1 := by rw [hpe, HNM.out]; exact hp
          have d2 : decide ((0 : Int) ≤ (p : Int)) = true := decide_eq_true (by omega)
          obtain ⟨g1, rfl, -⟩ := HIN.out.row.at hp
          have HGO : Hid (∀ W, CkPut w W b (.slice (some ⟨g1, 0, none⟩) n1 c1) m (Ck.touch m y) → ∃ q, (W.setCells b 0 (ringC (Ck.touch m y))).cell? ⟨g1, p * 2 + 1, none⟩ = some q ∧ (W.setCells b 0 (ringC (Ck.touch m y))).frozen? ⟨g1, p * 2 + 1, none⟩ = false) := Lib.hid fun W h => by
            obtain ⟨g2, e2, -, -, -, e3, e4⟩ := h.row.at hp
            injection e2 with e2
            injection e2 with e2
            subst e2
            rw [hpe]
            exact ⟨_, e3, e4⟩
          have HEND : Hid (∀ W, CkIn w W b (.slice (some ⟨g1, 0, none⟩) n1 c1) m → CkIn w ((W.setCells b 0 (ringC (Ck.touch m y))).setCell ⟨g1, p * 2 + 1, none⟩ (.bool true)) b (.slice (some ⟨g1, 0, none⟩) n1 c1) (Ck.touch m y)) := Lib.hid fun W h => by
            rw [hpe]
            exact h.touched hp (HPUT.out W h)
          clear hpl hpe hp
          go_wp2_with (first
            | (go_at_call 7; (with_reducible refine cp.mono ?_); rintro e w3 ⟨rfl, hb3⟩; have HIN3 := Lib.hid (HINp.out.on hb3); have HD3 := Lib.hid (HD.out w3 hb3); have f0 := HD3.out.at 0; have f1 := HD3.out.at 1; simp only [List.getElem?_cons_zero, List.getElem?_cons_succ] at f0 f1; clear hb3 cp)
            | (refine wpList_load_mid (by rfl) 28 (.tmp 5) (by rfl) b 0 (by rfl) (ringC m) _ HIN3.out.box.range Try.underlying28 (by rfl) HSZ.out ?_)
            | (go_at_call 8; (with_reducible refine (ct _).mono ?_); rintro e w4 ⟨rfl, hb4⟩; have HIN4 := Lib.hid (HIN3.out.on hb4); have HPT := Lib.hid (HPUT.out w4 HIN4.out); obtain ⟨vq, hq1, hq2⟩ := HGO.out w4 HPT.out; clear hb4 ct)
            | (refine wpList_store_mid (by rfl) 28 (.tmp 5) (.tmp 69) (by rfl) b 0 (ringC (Ck.touch m y)).toArray (by rfl) (by rfl) HPT.out.there HPT.out.size HPT.out.one ?_; rw [List.toList_toArray]))
          go_roundw
          case rel => exact ⟨k + 1, _, n1, c1, _, by omega, by go_num, rfl, Lib.hid (HEND.out w4 HIN4.out)⟩
          case measure => simp [intOf]; omega
        · have hpl : placeI m y = -1 := if_neg hp
          rw [hpl] at cp
          have HEND : Hid (∀ W, CkIn w W b (.slice A1 n1 c1) m → CkIn w (W.setCells b 0 (ringC (Ck.touch m y))) b (.slice A1 n1 c1) (Ck.touch m y)) := Lib.hid fun W h => h.same (HPUT.out W h) (List.set_eq_of_length_le (by omega))
          clear hpl hp
          go_wp2_with (first
            | (go_at_call 7; (with_reducible refine cp.mono ?_); rintro e w3 ⟨rfl, hb3⟩; have HIN3 := Lib.hid (HINp.out.on hb3); have HD3 := Lib.hid (HD.out w3 hb3); have f0 := HD3.out.at 0; have f1 := HD3.out.at 1; simp only [List.getElem?_cons_zero, List.getElem?_cons_succ] at f0 f1; clear hb3 cp)
            | (refine wpList_load_mid (by rfl) 28 (.tmp 5) (by rfl) b 0 (by rfl) (ringC m) _ HIN3.out.box.range Try.underlying28 (by rfl) HSZ.out ?_)
            | (go_at_call 8; (with_reducible refine (ct _).mono ?_); rintro e w4 ⟨rfl, hb4⟩; have HIN4 := Lib.hid (HIN3.out.on hb4); have HPT := Lib.hid (HPUT.out w4 HIN4.out); clear hb4 ct)
            | (refine wpList_store_mid (by rfl) 28 (.tmp 5) (.tmp 69) (by rfl) b 0 (ringC (Ck.touch m y)).toArray (by rfl) (by rfl) HPT.out.there HPT.out.size HPT.out.one ?_; rw [List.toList_toArray]))
          go_roundw
          case rel => exact ⟨k + 1, _, n1, c1, _, by omega, by go_num, rfl, Lib.hid (HEND.out w4 HIN4.out)⟩
          case measure => simp [intOf]; omega
      have k1 : (x == 1) = false := beq_false_of_ne h1
      by_cases h2 : x = 2
      · subst h2
        have ct : ∀ W, Calls Try.prog 9 #[.agg (ringC m).toArray, .int .i64 y] W fun e w' => e = .returned (.agg (ringC (Ck.remove m y)).toArray) ∧ Below W.heap.size W w' := fun W => remove_any HML.out y W
        have HPUT : Hid (∀ W, CkIn w W b (.slice A1 n1 c1) m → CkPut w W b (.slice A1 n1 c1) m (Ck.remove m y)) := Lib.hid fun W h => h.put (Nat.le_trans (List.length_eraseIdx_le _ _) HML.out)
        have HSZ : Hid ((Try.prog.info? 28).map (·.size) = some (ringC m).length) := Lib.hid (by rw [ring_size, ringC_length HML.out])
        by_cases hp : Ck.pos m y < m.length
        · have hpl : placeI m y = (Ck.pos m y : Int) := if_pos hp
          rw [hpl] at cp
          obtain ⟨p, hpe⟩ : ∃ p, p = Ck.pos m y := ⟨_, rfl⟩
          rw [← hpe] at cp
          have d2 : decide ((0 : Int) ≤ (p : Int)) = true := decide_eq_true (by omega)
          have HCW : Hid (∀ W, CkPut w W b (.slice A1 n1 c1) m (Ck.remove m y) → Calls Try.prog 10 #[.slice A1 n1 c1, .int .i64 (p : Int)] (W.setCells b 0 (ringC (Ck.remove m y))) fun e w' => ∃ v, e = .returned v ∧ SitRow w' (W.setCells b 0 (ringC (Ck.remove m y))).heap.size v (Ck.remove m y) ∧ Below (W.setCells b 0 (ringC (Ck.remove m y))).heap.size (W.setCells b 0 (ringC (Ck.remove m y))) w') := Lib.hid fun W h => by
            have h9 := without24_any h.row (by have := HML.out; omega) hp
            rw [hpe]
            exact h9
          have HOK := Lib.hid (HIN.out.ok.remove y)
          have HFAR := Lib.hid HIN.out.far
          clear hpl hpe hp
          go_wp2_with (first
            | (go_at_call 7; (with_reducible refine cp.mono ?_); rintro e w3 ⟨rfl, hb3⟩; have HIN3 := Lib.hid (HINp.out.on hb3); have HD3 := Lib.hid (HD.out w3 hb3); have f0 := HD3.out.at 0; have f1 := HD3.out.at 1; simp only [List.getElem?_cons_zero, List.getElem?_cons_succ] at f0 f1; clear hb3 cp)
            | (refine wpList_load_mid (by rfl) 28 (.tmp 5) (by rfl) b 0 (by rfl) (ringC m) _ HIN3.out.box.range Try.underlying28 (by rfl) HSZ.out ?_)
            | (go_at_call 9; (with_reducible refine (ct _).mono ?_); rintro e w4 ⟨rfl, hb4⟩; have HIN4 := Lib.hid (HIN3.out.on hb4); have HPT := Lib.hid (HPUT.out w4 HIN4.out); have cw := HCW.out w4 HPT.out; clear hb4 ct)
            | (refine wpList_store_mid (by rfl) 28 (.tmp 5) (.tmp 81) (by rfl) b 0 (ringC (Ck.remove m y)).toArray (by rfl) (by rfl) HPT.out.there HPT.out.size HPT.out.one ?_; rw [List.toList_toArray])
            | (go_at_call 10; (with_reducible refine cw.mono ?_); rintro e w6 ⟨v6, rfl, hr6, hb6⟩; have HIN6 := Lib.hid (HPT.out.and HFAR.out HOK.out hb6 (hr6.mono HPT.out.below.size)); obtain ⟨A6, c6, rfl, -, -, -⟩ := hr6; clear hb6 cw))
          go_roundw
          case rel => exact ⟨k + 1, A6, _, c6, _, by omega, by go_num, rfl, Lib.hid (HIN6.out)⟩
          case measure => simp [intOf]; omega
        · have hpl : placeI m y = -1 := if_neg hp
          rw [hpl] at cp
          have HEND : Hid (∀ W, CkIn w W b (.slice A1 n1 c1) m → CkIn w (W.setCells b 0 (ringC (Ck.remove m y))) b (.slice A1 n1 c1) (Ck.remove m y)) := Lib.hid fun W h => h.same (HPUT.out W h) (List.eraseIdx_of_length_le (by omega))
          clear hpl hp
          go_wp2_with (first
            | (go_at_call 7; (with_reducible refine cp.mono ?_); rintro e w3 ⟨rfl, hb3⟩; have HIN3 := Lib.hid (HINp.out.on hb3); have HD3 := Lib.hid (HD.out w3 hb3); have f0 := HD3.out.at 0; have f1 := HD3.out.at 1; simp only [List.getElem?_cons_zero, List.getElem?_cons_succ] at f0 f1; clear hb3 cp)
            | (refine wpList_load_mid (by rfl) 28 (.tmp 5) (by rfl) b 0 (by rfl) (ringC m) _ HIN3.out.box.range Try.underlying28 (by rfl) HSZ.out ?_)
            | (go_at_call 9; (with_reducible refine (ct _).mono ?_); rintro e w4 ⟨rfl, hb4⟩; have HIN4 := Lib.hid (HIN3.out.on hb4); have HPT := Lib.hid (HPUT.out w4 HIN4.out); clear hb4 ct)
            | (refine wpList_store_mid (by rfl) 28 (.tmp 5) (.tmp 81) (by rfl) b 0 (ringC (Ck.remove m y)).toArray (by rfl) (by rfl) HPT.out.there HPT.out.size HPT.out.one ?_; rw [List.toList_toArray]))
          go_roundw
          case rel => exact ⟨k + 1, _, n1, c1, _, by omega, by go_num, rfl, Lib.hid (HEND.out w4 HIN4.out)⟩
          case measure => simp [intOf]; omega
      have k2 : (x == 2) = false := beq_false_of_ne h2
      by_cases h3 : x = 3
      · subst h3
        clear h1 h2 k1 k2
        have HSZ : Hid ((Try.prog.info? 28).map (·.size) = some (ringC m).length) := Lib.hid (by rw [ring_size, ringC_length HML.out])
        have hlv : (Ck.vic m).length ≤ 16 := by rw [Ck.vic_length]; exact HML.out
        have HSV : Hid ((Try.prog.info? 28).map (·.size) = some (ringC (Ck.vic m)).toArray.size) := Lib.hid (by rw [ring_size]; simp [ringC_length hlv])
        have HSVL : Hid ((Try.prog.info? 28).map (·.size) = some (ringC (Ck.vic m)).length) := Lib.hid (by rw [ring_size, ringC_length hlv])
        have HOV := Lib.hid (all_oneCell_toArray (ringC_cell (Ck.vic m)))
        have HVR : Hid (∀ W : World, (W.alloc (.cells z0.toArray 28)).there W.heap.size 0 (ringC (Ck.vic m)).toArray.size ∧ Bx ((W.alloc (.cells z0.toArray 28)).setCells W.heap.size 0 (ringC (Ck.vic m))) W.heap.size 28 (ringC (Ck.vic m)) ∧ Below W.heap.size W ((W.alloc (.cells z0.toArray 28)).setCells W.heap.size 0 (ringC (Ck.vic m)))) := Lib.hid fun W => ring_var hlv W z0 HZL.out
        by_cases hm0 : m = []
        · have ct : ∀ W, Calls Try.prog 11 #[.agg (ringC m).toArray] W fun e w' => e = .returned (.tuple #[.int .i64 0, .agg (ringC (Ck.vic m)).toArray, .bool false]) ∧ Below W.heap.size W w' := fun W => (victim_any HML.out W).mono fun e w' ⟨he, hb⟩ => ⟨by rw [he, hm0]; rfl, hb⟩
          have hn0 : n1 = 0 := by rw [HNM.out, hm0]; rfl
          have d3 : ((n1 : Int) == 0) = true := by rw [hn0]; rfl
          clear hm0 hlv hn0
          go_wp2_with (first
            | (go_at_call 7; (with_reducible refine cp.mono ?_); rintro e w3 ⟨rfl, hb3⟩; have HIN3 := Lib.hid (HINp.out.on hb3); have HD3 := Lib.hid (HD.out w3 hb3); have f0 := HD3.out.at 0; have f1 := HD3.out.at 1; simp only [List.getElem?_cons_zero, List.getElem?_cons_succ] at f0 f1; clear hb3 cp)
            | (refine wpList_load_mid (by rfl) 28 (.tmp 5) (by rfl) b 0 (by rfl) (ringC m) _ HIN3.out.box.range Try.underlying28 (by rfl) HSZ.out ?_)
            | (go_at_call 11; (with_reducible refine (ct _).mono ?_); rintro e w4 ⟨rfl, hb4⟩; have HIN4 := Lib.hid (HIN3.out.on hb4); have HV4 := Lib.hid (HVR.out w4); have HIN5 := Lib.hid (HIN4.out.on HV4.out.2.2); clear hb4 ct)
            | (refine wpList_store_mid (by rfl) 28 (.tmp 11) (.tmp 93) (by rfl) w4.heap.size 0 (ringC (Ck.vic m)).toArray (by rfl) (by rfl) HV4.out.1 HSV.out HOV.out ?_; rw [List.toList_toArray]))
          go_roundw
          case rel => exact ⟨k + 1, _, n1, c1, _, by omega, by go_num, rfl, Lib.hid (HIN5.out)⟩
          case measure => simp [intOf]; omega
        · have ct : ∀ W, Calls Try.prog 11 #[.agg (ringC m).toArray] W fun e w' => e = .returned (.tuple #[.int .i64 (Ck.who m), .agg (ringC (Ck.vic m)).toArray, .bool true]) ∧ Below W.heap.size W w' := fun W => (victim_any HML.out W).mono fun e w' ⟨he, hb⟩ => ⟨by rw [he, decide_eq_true hm0], hb⟩
          have d3 : ((n1 : Int) == 0) = false := by
            have := List.length_pos_iff.2 hm0
            have := HNM.out
            exact beq_false_of_ne (by omega)
          have HCV : Hid (∀ W, CkIn w W b (.slice A1 n1 c1) m → Calls Try.prog 12 #[.slice A1 n1 c1] W fun e w' => ∃ v, e = .returned (.tuple #[.int .i64 (Ck.who m), v]) ∧ SitRow w' w.heap.size v (Ck.vic m) ∧ Below W.heap.size W w') := Lib.hid fun W h => victim24_any h.row h.below.size (by have := HML.out; omega) hm0
          have HLV := Lib.hid hlv
          have hw : (Ck.who m != Ck.who m) = false := by simp
          clear hm0 hlv
          generalize Ck.who m = wh at *
          go_wp2_with (first
            | (go_at_call 7; (with_reducible refine cp.mono ?_); rintro e w3 ⟨rfl, hb3⟩; have HIN3 := Lib.hid (HINp.out.on hb3); have HD3 := Lib.hid (HD.out w3 hb3); have f0 := HD3.out.at 0; have f1 := HD3.out.at 1; simp only [List.getElem?_cons_zero, List.getElem?_cons_succ] at f0 f1; clear hb3 cp)
            | (refine wpList_load_mid (by rfl) 28 (.tmp 5) (by rfl) b 0 (by rfl) (ringC m) _ HIN3.out.box.range Try.underlying28 (by rfl) HSZ.out ?_)
            | (go_at_call 11; (with_reducible refine (ct _).mono ?_); rintro e w4 ⟨rfl, hb4⟩; have HIN4 := Lib.hid (HIN3.out.on hb4); have HV4 := Lib.hid (HVR.out w4); have HIN5 := Lib.hid (HIN4.out.on HV4.out.2.2); have cv := HCV.out _ HIN5.out; clear hb4 ct)
            | (refine wpList_store_mid (by rfl) 28 (.tmp 11) (.tmp 93) (by rfl) w4.heap.size 0 (ringC (Ck.vic m)).toArray (by rfl) (by rfl) HV4.out.1 HSV.out HOV.out ?_; rw [List.toList_toArray])
            | (go_at_call 12; (with_reducible refine cv.mono ?_); rintro e w6 ⟨v6, rfl, hr6, hb6⟩; have HIN6 := Lib.hid (HIN5.out.on hb6); have HX6 := Lib.hid (HV4.out.2.1.below hb6 HV4.out.2.1.lt); have HPT := Lib.hid (HIN6.out.put (m' := Ck.vic m) HLV.out); have HEND := Lib.hid (HIN6.out.move hr6 HIN6.out.ok.vic); obtain ⟨A6, c6, rfl, -, -, -⟩ := hr6; clear hb6 cv)
            | (refine wpList_load_mid (by rfl) 28 (.tmp 11) (by rfl) w4.heap.size 0 (by rfl) (ringC (Ck.vic m)) _ HX6.out.range Try.underlying28 (by rfl) HSVL.out ?_)
            | (refine wpList_store_mid (by rfl) 28 (.tmp 5) (.tmp 115) (by rfl) b 0 (ringC (Ck.vic m)).toArray (by rfl) (by rfl) HPT.out.there HPT.out.size HPT.out.one ?_; rw [List.toList_toArray]))
          go_roundw
          case rel => exact ⟨k + 1, A6, _, c6, _, by omega, by go_num, rfl, Lib.hid (HEND.out)⟩
          case measure => simp [intOf]; omega
      have k3 : (x == 3) = false := beq_false_of_ne h3
      have ct : ∀ W, Calls Try.prog 13 #[.agg (ringC m).toArray, .int .i64 y] W fun e w' => e = .returned (.agg (ringC (Ck.add m y)).toArray) ∧ Below W.heap.size W w' := fun W => add_any HIN.out.ok y W
      have HPUT : Hid (∀ W, CkIn w W b (.slice A1 n1 c1) m → CkPut w W b (.slice A1 n1 c1) m (Ck.add m y)) := Lib.hid fun W h => h.put ((HIN.out.ok.add y).len)
      have HSZ : Hid ((Try.prog.info? 28).map (·.size) = some (ringC m).length) := Lib.hid (by rw [ring_size, ringC_length HML.out])
      have hwx : ∀ z : Int, (0 ≤ z ∧ z ≤ 15) = (Ck.may z = true) := fun z => by unfold Ck.may; simp
      clear h1 h2 h3
      by_cases hp : Ck.pos m y < m.length
      · have hpl : placeI m y = (Ck.pos m y : Int) := if_pos hp
        rw [hpl] at cp
        obtain ⟨p, hpe⟩ : ∃ p, p = Ck.pos m y := ⟨_, rfl⟩
        rw [← hpe] at cp
        have d2 : decide ((p : Int) < 0) = false := decide_eq_false (by omega)
        have HEND : Hid (∀ W, CkIn w W b (.slice A1 n1 c1) m → CkIn w (W.setCells b 0 (ringC (Ck.add m y))) b (.slice A1 n1 c1) (Ck.add m y)) := Lib.hid fun W h => h.same (HPUT.out W h) (by unfold Ck.add; rw [if_neg (fun h => h.2 hp)])
        clear hpl hpe hp hwx
        go_wp2_with (first
          | (go_at_call 7; (with_reducible refine cp.mono ?_); rintro e w3 ⟨rfl, hb3⟩; have HIN3 := Lib.hid (HINp.out.on hb3); have HD3 := Lib.hid (HD.out w3 hb3); have f0 := HD3.out.at 0; have f1 := HD3.out.at 1; simp only [List.getElem?_cons_zero, List.getElem?_cons_succ] at f0 f1; clear hb3 cp)
          | (refine wpList_load_mid (by rfl) 28 (.tmp 5) (by rfl) b 0 (by rfl) (ringC m) _ HIN3.out.box.range Try.underlying28 (by rfl) HSZ.out ?_)
          | (go_at_call 13; (with_reducible refine (ct _).mono ?_); rintro e w4 ⟨rfl, hb4⟩; have HIN4 := Lib.hid (HIN3.out.on hb4); have HPT := Lib.hid (HPUT.out w4 HIN4.out); obtain ⟨w5, hw5⟩ : ∃ w5, w5 = w4.setCells b 0 (ringC (Ck.add m y)) := ⟨_, rfl⟩; have HW5 := Lib.hid hw5; have HD5 : Hid (Bx w5 wr.heap.size 32 [.int .i64 x, .int .i64 y]) := Lib.hid (by rw [hw5]; exact (HPT.out.keep _ HQB.out).trans (HD3.out.below hb4 HD3.out.lt)); have g1 := HD5.out.at 1; simp only [List.getElem?_cons_zero, List.getElem?_cons_succ] at g1; clear hw5; clear hb4 ct)
          | (refine wpList_store_mid (by rfl) 28 (.tmp 5) (.tmp 40) (by rfl) b 0 (ringC (Ck.add m y)).toArray (by rfl) (by rfl) HPT.out.there HPT.out.size HPT.out.one ?_; rw [List.toList_toArray, ← HW5.out]))
        go_roundw
        case rel => exact ⟨k + 1, _, n1, c1, _, by omega, by go_num, rfl, Lib.hid (by rw [HW5.out]; exact HEND.out w4 HIN4.out)⟩
        case measure => simp [intOf]; omega
      have hpl : placeI m y = -1 := if_neg hp
      rw [hpl] at cp
      have d2 : decide ((-1 : Int) < 0) = true := by decide
      by_cases hy : Ck.may y = true
      · have hy2 : 0 ≤ y ∧ y ≤ 15 := by rw [hwx]; exact hy
        have d4 : decide ((0 : Int) ≤ y) = true := decide_eq_true hy2.1
        have d5 : decide (y ≤ 15) = true := decide_eq_true hy2.2
        have HAD : Hid (Ck.add m y = m ++ [(y, false)]) := Lib.hid (by unfold Ck.add; rw [if_pos ⟨hy, hp⟩])
        have HOK := Lib.hid (HIN.out.ok.add y)
        have HFAR := Lib.hid HIN.out.far
        have hs1 := sit_full A1 n1 c1 HIN.out.row.cells.2.1
        clear hpl hp hwx hy hy2
        go_wp2_with (first
          | (go_at_call 7; (with_reducible refine cp.mono ?_); rintro e w3 ⟨rfl, hb3⟩; have HIN3 := Lib.hid (HINp.out.on hb3); have HD3 := Lib.hid (HD.out w3 hb3); have f0 := HD3.out.at 0; have f1 := HD3.out.at 1; simp only [List.getElem?_cons_zero, List.getElem?_cons_succ] at f0 f1; clear hb3 cp)
          | (refine wpList_load_mid (by rfl) 28 (.tmp 5) (by rfl) b 0 (by rfl) (ringC m) _ HIN3.out.box.range Try.underlying28 (by rfl) HSZ.out ?_)
          | (go_at_call 13; (with_reducible refine (ct _).mono ?_); rintro e w4 ⟨rfl, hb4⟩; have HIN4 := Lib.hid (HIN3.out.on hb4); have HPT := Lib.hid (HPUT.out w4 HIN4.out); obtain ⟨w5, hw5⟩ : ∃ w5, w5 = w4.setCells b 0 (ringC (Ck.add m y)) := ⟨_, rfl⟩; have HW5 := Lib.hid hw5; have HD5 : Hid (Bx w5 wr.heap.size 32 [.int .i64 x, .int .i64 y]) := Lib.hid (by rw [hw5]; exact (HPT.out.keep _ HQB.out).trans (HD3.out.below hb4 HD3.out.lt)); have g1 := HD5.out.at 1; simp only [List.getElem?_cons_zero, List.getElem?_cons_succ] at g1; clear hw5; have HROW5 : Hid (SitRow w5 w.heap.size (.slice A1 n1 c1) m) := Lib.hid (by rw [HW5.out]; exact HPT.out.row); clear hb4 ct)
          | (refine wpList_store_mid (by rfl) 28 (.tmp 5) (.tmp 40) (by rfl) b 0 (ringC (Ck.add m y)).toArray (by rfl) (by rfl) HPT.out.there HPT.out.size HPT.out.one ?_; rw [List.toList_toArray, ← HW5.out]))
        have HB0 := Lib.hid (Below.refl w5.heap.size w5).drew
        have HPS : Hid (∀ W, Below w5.heap.size w5 W → W.cell? ⟨wr.heap.size, 1, none⟩ = some (.int .i64 y)) := Lib.hid fun W hb => (hb.cell (p := ⟨wr.heap.size, 1, none⟩) HD5.out.lt).trans g1
        have HRS : Hid (∀ W, Below w5.heap.size w5 W → SitRow W w.heap.size (.slice A1 n1 c1) m) := Lib.hid fun W hb => HROW5.out.below hb
        have hP := HPS.out _ HB0.out
        have HBS : Hid (w.heap.size ≤ w5.heap.size) := Lib.hid (by rw [HW5.out]; exact HPT.out.below.size)
        refine wp_region_held_drew (S := (fun W => W.cell? ⟨wr.heap.size, 1, none⟩ = some (.int .i64 y))) (by kernel_rfl) hP (fun hHeld => ?_)
        generalize w5.drew = wc at *
        refine wpAnyH_take (i := 0) (v := ?_) (List.getElem?_toArray.trans rfl) (by kernel_rfl) (by kernel_rfl) (by kernel_rfl) (fun _ _ _ h => h) (Or.inl ⟨by rfl, ?_⟩) (by assumption) ?_
        case refine_2 => (intro w hSw; (try dsimp only at hSw); clear hSw; go_simp <;> with_reducible rfl)
        simp only [Act.put, List.setIfInBounds_toArray, List.set_cons_zero, List.set_cons_succ]
        refine wpAnyH_take (i := 1) (v := ?_) (List.getElem?_toArray.trans rfl) (by kernel_rfl) (by kernel_rfl) (by kernel_rfl) (fun _ _ _ h => h) (Or.inl ⟨by rfl, ?_⟩) (by assumption) ?_
        case refine_2 => (intro w hSw; (try dsimp only at hSw); clear hSw; go_simp <;> with_reducible rfl)
        simp only [Act.put, List.setIfInBounds_toArray, List.set_cons_zero, List.set_cons_succ]
        refine wpAnyH_take (i := 2) (v := ?_) (List.getElem?_toArray.trans rfl) (by kernel_rfl) (by kernel_rfl) (by kernel_rfl) (fun _ _ _ h => h) (Or.inl ⟨by rfl, ?_⟩) (by assumption) ?_
        case refine_2 => (intro w hSw; (try dsimp only at hSw); clear hSw; go_simp <;> with_reducible rfl)
        simp only [Act.put, List.setIfInBounds_toArray, List.set_cons_zero, List.set_cons_succ]
        refine wpAnyH_take (i := 3) (v := ?_) (List.getElem?_toArray.trans rfl) (by kernel_rfl) (by kernel_rfl) (by kernel_rfl) (fun _ _ _ h => h) (Or.inl ⟨by rfl, ?_⟩) (by assumption) ?_
        case refine_2 => (intro w hSw; (try dsimp only at hSw); clear hSw; go_simp <;> with_reducible rfl)
        simp only [Act.put, List.setIfInBounds_toArray, List.set_cons_zero, List.set_cons_succ]
        refine wpAnyH_take (i := 4) (v := ?_) (List.getElem?_toArray.trans rfl) (by kernel_rfl) (by kernel_rfl) (by kernel_rfl) (fun _ _ _ h => h) (Or.inl ⟨by rfl, ?_⟩) (by assumption) ?_
        case refine_2 => (intro w hSw; (try dsimp only at hSw); clear hSw; go_simp <;> with_reducible rfl)
        simp only [Act.put, List.setIfInBounds_toArray, List.set_cons_zero, List.set_cons_succ]
        refine wpAnyH_take (i := 5) (v := ?_) (List.getElem?_toArray.trans rfl) (by kernel_rfl) (by kernel_rfl) (by kernel_rfl) (fun _ _ _ h => h) (Or.inl ⟨by rfl, ?_⟩) (by assumption) ?_
        case refine_2 => (intro w hSw; (try dsimp only at hSw); clear hSw; go_simp <;> with_reducible rfl)
        simp only [Act.put, List.setIfInBounds_toArray, List.set_cons_zero, List.set_cons_succ]
        refine wpAnyH_take (i := 6) (v := ?_) (List.getElem?_toArray.trans rfl) (by kernel_rfl) (by kernel_rfl) (by kernel_rfl) (fun _ _ _ h => h) (Or.inl ⟨by rfl, ?_⟩) (by assumption) ?_
        case refine_2 => (intro w hSw; (try dsimp only at hSw); clear hSw; go_simp <;> with_reducible rfl)
        simp only [Act.put, List.setIfInBounds_toArray, List.set_cons_zero, List.set_cons_succ]
        refine wpAnyH_take (i := 7) (v := ?_) (List.getElem?_toArray.trans rfl) (by kernel_rfl) (by kernel_rfl) (by kernel_rfl) (fun _ _ _ h => h) (Or.inl ⟨by rfl, ?_⟩) (by assumption) ?_
        case refine_2 => (intro w hSw; (try dsimp only at hSw); go_simp <;> with_reducible rfl)
        simp only [Act.put, List.setIfInBounds_toArray, List.set_cons_zero, List.set_cons_succ]
        refine wpAnyH_take (i := 8) (v := ?_) (List.getElem?_toArray.trans rfl) (by kernel_rfl) (by kernel_rfl) (by kernel_rfl) (fun _ _ _ h => h) (Or.inl ⟨by rfl, ?_⟩) (by assumption) ?_
        case refine_2 => (intro w hSw; (try dsimp only at hSw); clear hSw; go_simp <;> with_reducible rfl)
        simp only [Act.put, List.setIfInBounds_toArray, List.set_cons_zero, List.set_cons_succ]
        refine wpAnyH_ready (rs := [9]) (by kernel_rfl) (by simp) ?_
        refine AllReadyH.cons (List.getElem?_toArray.trans rfl) (fun K hK => ?_) AllReadyH.nil
        go_simp; have hbn := (Below.refl wc.heap.size wc).alloc (Nat.le_refl _) (.cells #[.int .i64 y, .bool false] 36); have hvb := new_cells wc 36 #[.int .i64 y, .bool false]; replace HB0 := Lib.hid (HB0.out.trans (hbn.mono HB0.out.size)); have hP := HPS.out _ HB0.out; have HVB := Lib.hid hvb; clear hbn hvb; generalize wc.alloc (.cells #[.int .i64 y, .bool false] 36) = wc at *
        refine hK.out _ _ hP (fun hHeld => ?_)
        clear hK K
        refine wpAnyH_ready (rs := [10]) (by kernel_rfl) (by simp) ?_
        refine AllReadyH.cons (List.getElem?_toArray.trans rfl) (fun K hK => ?_) AllReadyH.nil
        refine step_append_full (by rfl) _ _ (by rfl) (A := A1) (n := n1) (c := c1) (by rfl) (HRS.out _ HB0.out) (by have := HML.out; omega) (y, false) _ (by rfl) HVB.out ?_; intro v6 w6 hr6 hb6; have hbe := HB0.out.trans (hb6.mono HB0.out.size); have hP := HPS.out _ hbe; have HR6 := Lib.hid (hr6.mono (Nat.le_trans HBS.out HB0.out.size) : SitRow w6 w.heap.size v6 (m ++ [(y, false)])); have HBE := Lib.hid hbe; clear hr6 hb6 hbe
        refine hK.out _ _ hP (fun hHeld => ?_)
        clear hK K
        refine wpAnyH_take (i := 11) (v := ?_) (List.getElem?_toArray.trans rfl) (by kernel_rfl) (by kernel_rfl) (by kernel_rfl) (fun _ _ _ h => h) (Or.inl ⟨by rfl, ?_⟩) (by assumption) ?_
        case refine_2 => (intro w hSw; (try dsimp only at hSw); clear hSw; go_simp <;> with_reducible rfl)
        simp only [Act.put, List.setIfInBounds_toArray, List.set_cons_zero, List.set_cons_succ]
        refine wpAnyH_done (by kernel_rfl) ?_ _
        have HIN6 : Hid (CkIn w w6 b v6 (Ck.add m y)) := Lib.hid (by
          have h9 := HPT.out
          have h8 := HBE.out
          rw [HW5.out] at h8
          exact h9.and HFAR.out HOK.out h8 (by rw [HAD.out]; exact HR6.out))
        obtain ⟨A6, c6, rfl, -, -, -⟩ := HR6.out
        go_wp2_with fail
        go_roundw
        case rel => exact ⟨k + 1, A6, _, c6, _, by omega, by go_num, rfl, Lib.hid (HIN6.out)⟩
        case measure => simp [intOf]; omega
      · have HEND : Hid (∀ W, CkIn w W b (.slice A1 n1 c1) m → CkIn w (W.setCells b 0 (ringC (Ck.add m y))) b (.slice A1 n1 c1) (Ck.add m y)) := Lib.hid fun W h => h.same (HPUT.out W h) (by unfold Ck.add; rw [if_neg (fun h => hy h.1)])
        have hy2 : ¬ (0 ≤ y ∧ y ≤ 15) := by rw [hwx]; exact hy
        by_cases hy0 : 0 ≤ y
        · have d4 : decide ((0 : Int) ≤ y) = true := decide_eq_true hy0
          have d5 : decide (y ≤ 15) = false := decide_eq_false (fun h => hy2 ⟨hy0, h⟩)
          clear hpl hp hwx hy hy2 hy0
          go_wp2_with (first
            | (go_at_call 7; (with_reducible refine cp.mono ?_); rintro e w3 ⟨rfl, hb3⟩; have HIN3 := Lib.hid (HINp.out.on hb3); have HD3 := Lib.hid (HD.out w3 hb3); have f0 := HD3.out.at 0; have f1 := HD3.out.at 1; simp only [List.getElem?_cons_zero, List.getElem?_cons_succ] at f0 f1; clear hb3 cp)
            | (refine wpList_load_mid (by rfl) 28 (.tmp 5) (by rfl) b 0 (by rfl) (ringC m) _ HIN3.out.box.range Try.underlying28 (by rfl) HSZ.out ?_)
            | (go_at_call 13; (with_reducible refine (ct _).mono ?_); rintro e w4 ⟨rfl, hb4⟩; have HIN4 := Lib.hid (HIN3.out.on hb4); have HPT := Lib.hid (HPUT.out w4 HIN4.out); obtain ⟨w5, hw5⟩ : ∃ w5, w5 = w4.setCells b 0 (ringC (Ck.add m y)) := ⟨_, rfl⟩; have HW5 := Lib.hid hw5; have HD5 : Hid (Bx w5 wr.heap.size 32 [.int .i64 x, .int .i64 y]) := Lib.hid (by rw [hw5]; exact (HPT.out.keep _ HQB.out).trans (HD3.out.below hb4 HD3.out.lt)); have g1 := HD5.out.at 1; simp only [List.getElem?_cons_zero, List.getElem?_cons_succ] at g1; clear hw5; clear hb4 ct)
            | (refine wpList_store_mid (by rfl) 28 (.tmp 5) (.tmp 40) (by rfl) b 0 (ringC (Ck.add m y)).toArray (by rfl) (by rfl) HPT.out.there HPT.out.size HPT.out.one ?_; rw [List.toList_toArray, ← HW5.out]))
          go_roundw
          case rel => exact ⟨k + 1, _, n1, c1, _, by omega, by go_num, rfl, Lib.hid (by rw [HW5.out]; exact HEND.out w4 HIN4.out)⟩
          case measure => simp [intOf]; omega
        · have d4 : decide ((0 : Int) ≤ y) = false := decide_eq_false hy0
          clear hpl hp hwx hy hy2 hy0
          go_wp2_with (first
            | (go_at_call 7; (with_reducible refine cp.mono ?_); rintro e w3 ⟨rfl, hb3⟩; have HIN3 := Lib.hid (HINp.out.on hb3); have HD3 := Lib.hid (HD.out w3 hb3); have f0 := HD3.out.at 0; have f1 := HD3.out.at 1; simp only [List.getElem?_cons_zero, List.getElem?_cons_succ] at f0 f1; clear hb3 cp)
            | (refine wpList_load_mid (by rfl) 28 (.tmp 5) (by rfl) b 0 (by rfl) (ringC m) _ HIN3.out.box.range Try.underlying28 (by rfl) HSZ.out ?_)
            | (go_at_call 13; (with_reducible refine (ct _).mono ?_); rintro e w4 ⟨rfl, hb4⟩; have HIN4 := Lib.hid (HIN3.out.on hb4); have HPT := Lib.hid (HPUT.out w4 HIN4.out); obtain ⟨w5, hw5⟩ : ∃ w5, w5 = w4.setCells b 0 (ringC (Ck.add m y)) := ⟨_, rfl⟩; have HW5 := Lib.hid hw5; have HD5 : Hid (Bx w5 wr.heap.size 32 [.int .i64 x, .int .i64 y]) := Lib.hid (by rw [hw5]; exact (HPT.out.keep _ HQB.out).trans (HD3.out.below hb4 HD3.out.lt)); have g1 := HD5.out.at 1; simp only [List.getElem?_cons_zero, List.getElem?_cons_succ] at g1; clear hw5; clear hb4 ct)
            | (refine wpList_store_mid (by rfl) 28 (.tmp 5) (.tmp 40) (by rfl) b 0 (ringC (Ck.add m y)).toArray (by rfl) (by rfl) HPT.out.there HPT.out.size HPT.out.one ?_; rw [List.toList_toArray, ← HW5.out]))
          go_roundw
          case rel => exact ⟨k + 1, _, n1, c1, _, by omega, by go_num, rfl, Lib.hid (by rw [HW5.out]; exact HEND.out w4 HIN4.out)⟩
          case measure => simp [intOf]; omega
      --BR>
    · --first
      --END<
      have hkn : k = n := by omega
      obtain ⟨hnm, hnc, -⟩ := HIN.out.row.cells
      have hml := HIN.out.ok.len
      have hn1 : n1 ≤ 16 := by omega
      obtain ⟨wo, hwo⟩ : ∃ wo, wo = wr := ⟨wr, rfl⟩
      subst hwo
      obtain ⟨i0, hi0, hz0, hz1, hz2⟩ := info_parts int_infoS
      have HI0 := Lib.hid hi0
      have HZ := Lib.hid hz0
      have HSI := Lib.hid hz1
      have HBY := Lib.hid hz2
      have HNM := Lib.hid hnm
      have HML := Lib.hid hml
      have HSZ : Hid ((Try.prog.info? 28).map (·.size) = some (ringC m).length) := Lib.hid (by rw [ring_size, ringC_length HML.out])
      have HOS : Hid (∀ W, Below wo.heap.size wo W → SitRow W w.heap.size (.slice A1 n1 c1) m ∧ Bx W b 28 (ringC m) ∧ Below w.heap.size w W) := Lib.hid fun W hb => ⟨HIN.out.row.below hb, HIN.out.box.below hb HIN.out.box.lt, HIN.out.below.trans (hb.mono HIN.out.below.size)⟩
      have HOK := Lib.hid HIN.out.ok
      clear hi0 hz0 hz1 hz2 hnm hnc hml HIN hkn
      go_wp2
      go_loopw [15, 120] (fun v i wr => ∃ (j : Nat) (A2 : Option Addr) (c2 : Nat), j ≤ n1 ∧ i = .int .i64 j ∧ v = .slice A2 j c2 ∧ Hid (wr.ownsRow wo.heap.size 3 1 (.slice A2 j c2) j (nums .i64 ((m.map (·.1)).take j))) ∧ Hid (Below wo.heap.size wo wr)) (fun _ i _ => n1 - (intOf i).toNat)
      case atStart => exact ⟨0, none, 0, by omega, rfl, rfl, Lib.hid ⟨rfl, .inl ⟨rfl, rfl⟩⟩, Lib.hid (Below.refl _ _)⟩
      case round =>
        obtain ⟨j, A2, c2, hj, rfl, rfl, HO, HB⟩ := hrel
        by_cases hlt : j < n1
        · have hjm : j < m.length := by rw [← HNM.out]; exact hlt
          obtain ⟨g1, rfl, -, -, e1, e2, -⟩ := (HOS.out wr HB.out).1.at hjm
          obtain ⟨x, hx⟩ : ∃ x, x = m[j].1 := ⟨_, rfl⟩
          obtain ⟨y, hy⟩ : ∃ y, y = m[j].2 := ⟨_, rfl⟩
          rw [← hx] at e1
          rw [← hy] at e2
          have hmk : Ck.mark m x = y := by rw [hx, Ck.mark_yes (by rw [HOK.out.pos hjm]; exact hjm), hy]; simp only [HOK.out.pos hjm]
          have cm : ∀ W, Calls Try.prog 14 #[.agg (ringC m).toArray, .int .i64 x] W fun e w' => e = .returned (.bool y) ∧ Below W.heap.size W w' := fun W => (marked_any HML.out x W).mono fun e w' ⟨he, hb⟩ => ⟨by rw [he, hmk], hb⟩
          have HS : Hid (nums .i64 ((m.map (·.1)).take j) ++ [.int .i64 x] = nums .i64 ((m.map (·.1)).take (j + 1))) := Lib.hid (by
            rw [List.take_succ_eq_append_getElem (by simpa using hjm), ← nums_append, List.getElem_map, ← hx]
            rfl)
          have HBA := Lib.hid (HB.out.alloc HB.out.size (.cells #[.int .i64 x, .bool y] 36))
          have HVN : Hid (Vs ((wr.alloc (.cells #[.int .i64 x, .bool y] 36)).alloc (.cells #[.int .i64 x] 3)) (wr.heap.size + 2) (some ⟨wr.heap.size + 1, 0, none⟩) 1 [.int .i64 x]) := Lib.hid (by
            have h := Vs.new (wr.alloc (.cells #[.int .i64 x, .bool y] 36)) 3 (0, 0) #[.int .i64 x]
            simpa using h)
          have HQX : Hid (∀ W, Below (wr.alloc (.cells #[.int .i64 x, .bool y] 36)).heap.size (wr.alloc (.cells #[.int .i64 x, .bool y] 36)) W → Bx W wr.heap.size 36 [.int .i64 x, .bool y]) := Lib.hid fun W hb => (Bx.new wr [.int .i64 x, .bool y] 36).below hb (Bx.new wr [.int .i64 x, .bool y] 36).lt
          have hyy : (y != y) = false := by simp
          have hj16 : j < 16 := by omega
          clear hx hy hmk hjm
          go_wp2_with (at_builtin; refine wpList_append_vals (o := ⟨some 128, _, _, _, _, _⟩) rfl (.tmp 124) (.tmp 127) 42 rfl wo.heap.size 3 i0 _ 8 Try.underlying42 HI0.out HZ.out HSI.out HBY.out rfl _ j (nums .i64 ((m.map (·.1)).take j)) rfl ((HO.out.alloc _).alloc _) (wr.heap.size + 2) (some ⟨wr.heap.size + 1, 0, none⟩) 1 1 [.int .i64 x] rfl HVN.out (by intro u hu; simp at hu; subst hu; rfl) (by omega) (by omega) (by have := HB.out.size; simp; omega) ?_; intro v2 w4 HO2 HG2)
          have ho2 := HO2.out
          rw [HS.out] at ho2
          have hb4 : Below wo.heap.size wo w4 := by
            have hb2 := HBA.out.alloc HBA.out.size (.cells #[.int .i64 x] 3)
            exact hb2.grown HG2.out hb2.size (fun q hq => (HO.out.lt q hq).1)
          have HX4 : Hid (Bx w4 wr.heap.size 36 [.int .i64 x, .bool y]) := Lib.hid (by
            have h0 := (Bx.new wr [.int .i64 x, .bool y] 36).alloc (.cells #[.int .i64 x] 3)
            exact (HG2.out.block wr.heap.size (by simp; omega) (fun e => by have := (HO.out.lt _ e.symm).2; omega)).trans h0)
          have HOW := Lib.hid ho2
          have HB4 := Lib.hid (Below.refl w4.heap.size w4).drew
          have HBW := Lib.hid hb4
          have HPS : Hid (∀ W, Below w4.heap.size w4 W → W.rangeAt b 0 (ringC m) ∧ W.cell? ⟨wr.heap.size, 0, none⟩ = some (.int .i64 x) ∧ W.cell? ⟨wr.heap.size, 1, none⟩ = some (.bool y)) := Lib.hid fun W hb => by
            have h1 := HX4.out.below hb HX4.out.lt
            exact ⟨(HOS.out W (HBW.out.trans (hb.mono HBW.out.size))).2.1.range, h1.at 0, h1.at 1⟩
          have hP := HPS.out _ HB4.out
          obtain ⟨A5, c5, rfl, -, -⟩ := Vs.of_own HOW.out
          clear ho2 hb4
          refine wp_region_held_drew (S := (fun W => W.rangeAt b 0 (ringC m) ∧ W.cell? ⟨wr.heap.size, 0, none⟩ = some (.int .i64 x) ∧ W.cell? ⟨wr.heap.size, 1, none⟩ = some (.bool y))) (by kernel_rfl) hP (fun hHeld => ?_)
          refine wpAnyH_take (i := 0) (v := .agg (ringC m).toArray) (List.getElem?_toArray.trans rfl) (by kernel_rfl) (by kernel_rfl) (by kernel_rfl) (fun _ _ _ h => h) ?_ (by assumption) ?_
          · exact yieldsIf_load_mid (by rfl) 28 _ (by rfl) b 0 (by rfl) (ringC m) _ (fun _ h => h.1) Try.underlying28 (by rfl) HSZ.out
          simp only [Act.put, List.setIfInBounds_toArray, List.set_cons_zero, List.set_cons_succ]
          refine wpAnyH_take (i := 1) (v := ?_) (List.getElem?_toArray.trans rfl) (by kernel_rfl) (by kernel_rfl) (by kernel_rfl) (fun _ _ _ h => h) (Or.inl ⟨by rfl, ?_⟩) (by assumption) ?_
          case refine_2 => (intro w hSw; (try dsimp only at hSw); clear hSw; go_simp <;> with_reducible rfl)
          simp only [Act.put, List.setIfInBounds_toArray, List.set_cons_zero, List.set_cons_succ]
          refine wpAnyH_take (i := 2) (v := ?_) (List.getElem?_toArray.trans rfl) (by kernel_rfl) (by kernel_rfl) (by kernel_rfl) (fun _ _ _ h => h) (Or.inl ⟨by rfl, ?_⟩) (by assumption) ?_
          case refine_2 => (intro w hSw; obtain ⟨hSa, hSb, hSc⟩ := hSw; clear hSa; go_simp <;> with_reducible rfl)
          simp only [Act.put, List.setIfInBounds_toArray, List.set_cons_zero, List.set_cons_succ]
          refine wpAnyH_take (i := 4) (v := ?_) (List.getElem?_toArray.trans rfl) (by kernel_rfl) (by kernel_rfl) (by kernel_rfl) (fun _ _ _ h => h) (Or.inl ⟨by rfl, ?_⟩) (by assumption) ?_
          case refine_2 => (intro w hSw; (try dsimp only at hSw); clear hSw; go_simp <;> with_reducible rfl)
          simp only [Act.put, List.setIfInBounds_toArray, List.set_cons_zero, List.set_cons_succ]
          refine wpAnyH_take (i := 5) (v := ?_) (List.getElem?_toArray.trans rfl) (by kernel_rfl) (by kernel_rfl) (by kernel_rfl) (fun _ _ _ h => h) (Or.inl ⟨by rfl, ?_⟩) (by assumption) ?_
          case refine_2 => (intro w hSw; obtain ⟨hSa, hSb, hSc⟩ := hSw; clear hSa; go_simp <;> with_reducible rfl)
          simp only [Act.put, List.setIfInBounds_toArray, List.set_cons_zero, List.set_cons_succ]
          refine wpAnyH_ready (rs := [3]) (by kernel_rfl) (by simp) ?_
          refine AllReadyH.cons (List.getElem?_toArray.trans rfl) (fun K hK => ?_) AllReadyH.nil
          go_simp
          go_at_call 14; (with_reducible refine (cm _).mono ?_); rintro e w5 ⟨rfl, hb5⟩; have HB5 := Lib.hid (HB4.out.trans (hb5.mono HB4.out.size)); have hP := HPS.out _ HB5.out; clear hb5
          refine hK.out _ _ hP (fun hHeld => ?_)
          clear hK K
          refine wpAnyH_take (i := 6) (v := ?_) (List.getElem?_toArray.trans rfl) (by kernel_rfl) (by kernel_rfl) (by kernel_rfl) (fun _ _ _ h => h) (Or.inl ⟨by rfl, ?_⟩) (by assumption) ?_
          case refine_2 => (intro w hSw; (try dsimp only at hSw); clear hSw; go_simp <;> with_reducible rfl)
          simp only [Act.put, List.setIfInBounds_toArray, List.set_cons_zero, List.set_cons_succ]
          refine wpAnyH_done (by kernel_rfl) ?_ _
          go_wp2_with fail
          go_roundw
          case rel => exact ⟨j + 1, A5, c5, by omega, by go_num, rfl, Lib.hid (own_belowN HOW.out HB5.out), Lib.hid (HBW.out.trans (HB5.out.mono HBW.out.size))⟩
          case measure => simp [intOf]; omega
        · have hjn : j = n1 := by omega
          have HE : Hid ((m.map (·.1)).take j = m.map (·.1) ∧ (m.map (·.1)).length = n1) := Lib.hid (by
            have := HNM.out
            exact ⟨List.take_of_length_le (by rw [List.length_map]; omega), by rw [List.length_map]; omega⟩)
          have HROW : Hid (Vs wr wr.heap.size A2 n1 (nums .i64 (m.map (·.1)))) := Lib.hid (by
            obtain ⟨A9, c9, e9, hv9, -⟩ := Vs.of_own HO.out
            injection e9 with e9 _ _
            subst e9
            rw [HE.out.1] at hv9
            rwa [← hjn])
          have hor := HOS.out wr HB.out
          have cp := place_any hor.1 (by have := HML.out; omega) o9
          have HXC := Lib.hid hor.2.1
          have HBC := Lib.hid hor.2.2
          have ca : ∀ W, Calls Try.prog 16 #[.agg (ringC m).toArray] W fun e w' => ∃ A' c', e = .returned (.slice A' n1 c') ∧ Vs w' w'.heap.size A' n1 (nums .i64 (m.map (·.1))) ∧ Below W.heap.size W w' := fun W => (all_any HML.out W).mono fun e w' ⟨A', c', he, hv, _, hb⟩ => by
            rw [HE.out.2] at he hv
            exact ⟨A', c', he, hv, hb⟩
          have cl : ∀ W, Calls Try.prog 17 #[.agg (ringC m).toArray] W fun e w' => e = .returned (.int .i64 (n1 : Int)) ∧ Below W.heap.size W w' := fun W => (len_any HML.out W).mono fun e w' ⟨he, hb⟩ => ⟨by rw [he, HNM.out], hb⟩
          have hnn : ((n1 : Int) == (n1 : Int)) = true := by simp
          subst hjn
          clear hor
          by_cases hp : Ck.pos m o9 < m.length
          · have hpl : placeI m o9 = (Ck.pos m o9 : Int) := if_pos hp
            rw [hpl] at cp
            have ch : ∀ W, Calls Try.prog 18 #[.agg (ringC m).toArray, .int .i64 o9] W fun e w' => e = .returned (.bool true) ∧ Below W.heap.size W w' := fun W => (has_any HML.out o9 W).mono fun e w' ⟨he, hb⟩ => ⟨by rw [he, decide_eq_true hp], hb⟩
            have d2 : decide ((0 : Int) ≤ (Ck.pos m o9 : Int)) = true := decide_eq_true (by omega)
            clear hpl hp
            generalize Ck.pos m o9 = p at *
            go_wp2_with (first
              | (go_at_call 7; (with_reducible refine cp.mono ?_); rintro e w7 ⟨rfl, hb7⟩; replace HXC := Lib.hid (HXC.out.below hb7 HXC.out.lt); replace HBC := Lib.hid (HBC.out.trans (hb7.mono HBC.out.size)); have HROW2 := Lib.hid ((HROW.out.below hb7).mono hb7.size); clear hb7)
              | (refine wpList_load_want (by rfl) 28 (.tmp 5) (by rfl) b 0 (by rfl) (ringC m) _ HXC.out.range Try.underlying28 (by rfl) HSZ.out ?_)
              | (go_at_call 16; (with_reducible refine (ca _).mono ?_); rintro e w8 ⟨A8, c8, rfl, hv8, hb8⟩; replace HXC := Lib.hid (HXC.out.below hb8 HXC.out.lt); replace HBC := Lib.hid (HBC.out.trans (hb8.mono HBC.out.size)); have ci := ints_same A8 A2 j c8 c2 w8.heap.size (m.map (·.1)) w8 hv8 ((HROW2.out.below hb8).mono hb8.size) (by omega); clear hb8 hv8)
              | (go_at_call 15; (with_reducible refine ci.mono ?_); rintro e w9 ⟨rfl, m9, rfl⟩; replace HXC : Hid (Bx (w8.drewN m9) b 28 (ringC m)) := Lib.hid HXC.out; replace HBC := Lib.hid (below_drewN HBC.out m9); clear ci)
              | (go_at_call 17; (with_reducible refine (cl _).mono ?_); rintro e w7 ⟨rfl, hb7⟩; replace HXC := Lib.hid (HXC.out.below hb7 HXC.out.lt); replace HBC := Lib.hid (HBC.out.trans (hb7.mono HBC.out.size)); clear hb7)
              | (go_at_call 18; (with_reducible refine (ch _).mono ?_); rintro e w7 ⟨rfl, hb7⟩; replace HXC := Lib.hid (HXC.out.below hb7 HXC.out.lt); replace HBC := Lib.hid (HBC.out.trans (hb7.mono HBC.out.size)); clear hb7))
            go_ret
            exact ⟨rfl, HBC.out⟩
          · have hpl : placeI m o9 = -1 := if_neg hp
            rw [hpl] at cp
            have ch : ∀ W, Calls Try.prog 18 #[.agg (ringC m).toArray, .int .i64 o9] W fun e w' => e = .returned (.bool false) ∧ Below W.heap.size W w' := fun W => (has_any HML.out o9 W).mono fun e w' ⟨he, hb⟩ => ⟨by rw [he, decide_eq_false hp], hb⟩
            have cm : ∀ W, Calls Try.prog 14 #[.agg (ringC m).toArray, .int .i64 o9] W fun e w' => e = .returned (.bool false) ∧ Below W.heap.size W w' := fun W => (marked_any HML.out o9 W).mono fun e w' ⟨he, hb⟩ => ⟨by rw [he, Ck.mark_no hp], hb⟩
            clear hpl hp
            go_wp2_with (first
              | (go_at_call 7; (with_reducible refine cp.mono ?_); rintro e w7 ⟨rfl, hb7⟩; replace HXC := Lib.hid (HXC.out.below hb7 HXC.out.lt); replace HBC := Lib.hid (HBC.out.trans (hb7.mono HBC.out.size)); have HROW2 := Lib.hid ((HROW.out.below hb7).mono hb7.size); clear hb7)
              | (refine wpList_load_want (by rfl) 28 (.tmp 5) (by rfl) b 0 (by rfl) (ringC m) _ HXC.out.range Try.underlying28 (by rfl) HSZ.out ?_)
              | (go_at_call 16; (with_reducible refine (ca _).mono ?_); rintro e w8 ⟨A8, c8, rfl, hv8, hb8⟩; replace HXC := Lib.hid (HXC.out.below hb8 HXC.out.lt); replace HBC := Lib.hid (HBC.out.trans (hb8.mono HBC.out.size)); have ci := ints_same A8 A2 j c8 c2 w8.heap.size (m.map (·.1)) w8 hv8 ((HROW2.out.below hb8).mono hb8.size) (by omega); clear hb8 hv8)
              | (go_at_call 15; (with_reducible refine ci.mono ?_); rintro e w9 ⟨rfl, m9, rfl⟩; replace HXC : Hid (Bx (w8.drewN m9) b 28 (ringC m)) := Lib.hid HXC.out; replace HBC := Lib.hid (below_drewN HBC.out m9); clear ci)
              | (go_at_call 17; (with_reducible refine (cl _).mono ?_); rintro e w7 ⟨rfl, hb7⟩; replace HXC := Lib.hid (HXC.out.below hb7 HXC.out.lt); replace HBC := Lib.hid (HBC.out.trans (hb7.mono HBC.out.size)); clear hb7)
              | (go_at_call 18; (with_reducible refine (ch _).mono ?_); rintro e w7 ⟨rfl, hb7⟩; replace HXC := Lib.hid (HXC.out.below hb7 HXC.out.lt); replace HBC := Lib.hid (HBC.out.trans (hb7.mono HBC.out.size)); clear hb7)
              | (go_at_call 14; (with_reducible refine (cm _).mono ?_); rintro e w7 ⟨rfl, hb7⟩; replace HXC := Lib.hid (HXC.out.below hb7 HXC.out.lt); replace HBC := Lib.hid (HBC.out.trans (hb7.mono HBC.out.size)); clear hb7))
            go_ret
            exact ⟨rfl, HBC.out⟩
      --END>
end Go.Proofs.Ytlhkcfhhgcmieaa
