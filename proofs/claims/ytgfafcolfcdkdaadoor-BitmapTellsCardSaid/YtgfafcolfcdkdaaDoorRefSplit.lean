/-
  The document's Split: numbers in a row, in runs of such as others have, and such as they haven't.
-/
import Derived.Test.YtgfafcolfcdkdaaDoorRefIn
import Derived.Test.YtgfafcolfcdkdaaDoorRunVals
namespace Go.Proofs.YtgfafcolfcdkdaaDoor
open Go.ChangeShapes Go.WideShapes Go.ChangeAt Go.RowKit
set_option maxRecDepth 100000

theorem run_info : (Tryd.prog.info? 48).map (fun i => (i.zero, i.size, i.bytes)) = some (some (.agg #[.int .i64 0, .int .i64 0, .bool false]), 3, 24) := by kernel_rfl
theorem run_parts : ∃ i, Tryd.prog.info? 48 = some i ∧ i.zero = some (.agg #[.int .i64 0, .int .i64 0, .bool false]) ∧ i.size = 3 ∧ i.bytes = 24 := by
  have h := run_info
  cases hi : Tryd.prog.info? 48 with
  | none => rw [hi] at h; cases h
  | some i =>
    rw [hi] at h
    simp only [Option.map_some, Option.some.injEq, Prod.mk.injEq] at h
    exact ⟨i, rfl, h.1, h.2.1, h.2.2⟩
/-- a row of the call's own that is just these runs -/
def OwnR (w : World) (base : Nat) (v : Value) (L : List Bm.Run) : Prop := w.ownsRow base 48 3 v L.length (runV L)
theorem OwnR.nil (w : World) (base : Nat) : OwnR w base (.slice none 0 0) [] := World.ownsRow_nil _ _ _ _
theorem OwnR.below {w w' : World} {base : Nat} {v : Value} {L : List Bm.Run} (h : OwnR w base v L) (hb : Below w.heap.size w w') : OwnR w' base v L := own_belowN h hb
theorem OwnR.alloc {w : World} {base : Nat} {v : Value} {L : List Bm.Run} (h : OwnR w base v L) (o : Obj) : OwnR (w.alloc o) base v L := World.ownsRow.alloc h o
/-- the last of such a row, cell by cell -/
theorem OwnR.last {w : World} {base k : Nat} {v : Value} {L : List Bm.Run} (h : OwnR w base v L) (hk : k + 1 = L.length) : ∃ g c, v = .slice (some ⟨g, 0, none⟩) (k + 1) c ∧ base ≤ g ∧ g < w.heap.size ∧
    w.cell? ⟨g, k * 3, none⟩ = some (.int .i64 (L[k]'(by omega)).1) ∧ w.cell? ⟨g, k * 3 + 1, none⟩ = some (.int .i64 (L[k]'(by omega)).2.1) ∧ w.cell? ⟨g, k * 3 + 2, none⟩ = some (.bool (L[k]'(by omega)).2.2) ∧ w.frozen? ⟨g, k * 3 + 1, none⟩ = false := by
  have h0 : w.ownsRow base 48 3 v L.length (runV L) := h
  rcases h0.2 with ⟨rfl, hl⟩ | ⟨g, c, cur, rfl, hbg, hg, hnc, hsz, hcur⟩
  · omega
  · have hlt : g < w.heap.size := by
      rcases Nat.lt_or_ge g w.heap.size with hlt | hge
      · exact hlt
      · rw [Array.getElem?_eq_none hge] at hg
        cases hg
    obtain ⟨q0, q1, q2⟩ := runV_get L k (by omega)
    have e0 := h0.cellAt (k * 3) (by omega)
    have e1 := h0.cellAt (k * 3 + 1) (by omega)
    have e2 := h0.cellAt (k * 3 + 2) (by omega)
    exact ⟨g, c, by rw [hk], hbg, hlt, e0.trans q0, e1.trans q1, e2.trans q2, by simp [World.frozen?, hg]⟩
/-- the last one's end is another one -/
theorem OwnR.set1 {w : World} {base g c k : Nat} {L : List Bm.Run} (h : OwnR w base (.slice (some ⟨g, 0, none⟩) (k + 1) c) L) (hk : k + 1 = L.length) (y : Int) :
    OwnR (w.setCell ⟨g, k * 3 + 1, none⟩ (.int .i64 y)) base (.slice (some ⟨g, 0, none⟩) (k + 1) c) (L.set k ((L[k]'(by omega)).1, y, (L[k]'(by omega)).2.2)) := by
  have h0 : w.ownsRow base 48 3 (.slice (some ⟨g, 0, none⟩) (k + 1) c) (k + 1) (runV L) := by
    have h1 : w.ownsRow base 48 3 (.slice (some ⟨g, 0, none⟩) (k + 1) c) L.length (runV L) := h
    rwa [← hk] at h1
  have h2 := (h0.stored (k * 3 + 1) (.int .i64 y)).1
  rw [runV_set1 L k (by omega) y] at h2
  have hl : (L.set k ((L[k]'(by omega)).1, y, (L[k]'(by omega)).2.2)).length = k + 1 := by rw [List.length_set, hk]
  generalize L.set k ((L[k]'(by omega)).1, y, (L[k]'(by omega)).2.2) = M at h2 hl ⊢
  show World.ownsRow _ _ _ _ _ M.length _
  rw [hl]
  exact h2
/-- such a row reads as a list -/
theorem OwnR.rs {w : World} {base : Nat} {v : Value} {L : List Bm.Run} (h : OwnR w base v L) : ∃ A c, v = .slice A L.length c ∧ Rs w w.heap.size A L.length L ∧ L.length ≤ c := Vs.of_ownN h
theorem OwnR.more {w : World} {base : Nat} {v : Value} {L : List Bm.Run} {x : Bm.Run} (h : w.ownsRow base 48 3 v (L.length + 1) (runV L ++ [.int .i64 x.1, .int .i64 x.2.1, .bool x.2.2])) : OwnR w base v (L ++ [x]) := by
  show World.ownsRow _ _ _ _ _ (L ++ [x]).length _
  rw [List.length_append, ← runV_append]
  exact h
/-- runs, as a row of the call's own -/
def RunsTo (L : List Bm.Run) (w : World) (e : Ending) (w' : World) : Prop :=
  ∃ A c, e = .returned (.slice A L.length c) ∧ Rs w' w'.heap.size A L.length L ∧ L.length ≤ c ∧ Below w.heap.size w w'
set_option maxHeartbeats 4000000 in
theorem split_any (A1 A2 : Option Addr) (n1 c1 n2 c2 : Nat) (B : Nat) (l h : List Int) (w : World) (h1 : Vs w B A1 n1 (nums .i64 l)) (h2 : Vs w B A2 n2 (nums .i64 h)) (hB : B ≤ w.heap.size) (hn1 : n1 ≤ 100000) (hn2 : n2 ≤ 9223372036854775807) :
    Calls Tryd.prog 22 #[.slice A1 n1 c1, .slice A2 n2 c2] w (RunsTo (Bm.runs h (Bm.srt l 4097)) w) := by
  have HLN : Hid ((Bm.srt l 4097).length ≤ 100000) := Lib.hid (by
    have := Bm.srt_length l 4097
    have h3 := h1.1
    rw [nums_length] at h3
    omega)
  have HC := Lib.hid h2
  have HBW := Lib.hid hB
  have cs := sorted_any A1 n1 c1 B l w h1 hB hn1
  have HMB : Hid (∀ x ∈ Bm.srt l 4097, 0 ≤ x ∧ x < 4097) := Lib.hid (fun x hx => (Bm.mem_srt.1 hx).2)
  generalize Bm.srt l 4097 = S at *
  have hSL : S.length ≤ 100000 := HLN.out
  clear h1 h2 hB
  obtain ⟨i0, hi, hz0, hz1, hz2⟩ := run_parts
  have HI0 := Lib.hid hi
  have HZ := Lib.hid hz0
  have HSZ := Lib.hid hz1
  have HBY := Lib.hid hz2
  clear hi hz0 hz1 hz2
  go_enter Tryd.func22, Tryd.ntmps22
  go_wp2_with (go_at_call 8; (with_reducible refine cs.mono ?_); rintro e w1 ⟨As, ks, rfl, hvs, hks, hb1⟩; have HVS := Lib.hid hvs; have HB1 := Lib.hid hb1; clear hvs hks hb1 cs)
  go_loopw [5, 13] (fun v i wr => ∃ (j : Nat) (A' : Option Addr) (c' m : Nat), j ≤ S.length ∧ i = .int .i64 j ∧ v = .slice A' m c' ∧ Hid (m = (Bm.runs h (S.take j)).length) ∧ Hid (OwnR wr w1.heap.size (.slice A' m c') (Bm.runs h (S.take j))) ∧ Hid (Below w1.heap.size w1 wr)) (fun _ i _ => S.length - (intOf i).toNat)
  case atStart => exact ⟨0, none, 0, 0, by omega, rfl, rfl, Lib.hid rfl, Lib.hid (OwnR.nil _ _), Lib.hid (Below.refl _ _)⟩
  case round =>
    obtain ⟨j, A', c', m, hj, rfl, rfl, HM, HO, HB⟩ := hrel
    by_cases hlt : j < S.length
    · obtain ⟨bs, os, rfl, hbs, hcs⟩ := (HVS.out.below HB.out).2 (by omega)
      have e0 := hcs j (by rw [nums_length]; exact hlt)
      rw [nums_get .i64 S j (by rw [nums_length]; exact hlt) hlt] at e0
      have ci := in01_any A2 n2 c2 S[j] B h wr (HC.out.below ((HB1.out.trans (HB.out.mono HB1.out.size)).mono HBW.out)) (by omega)
      have HSN := Lib.hid (List.take_succ_eq_append_getElem hlt)
      have HXB := Lib.hid (HMB.out S[j] (List.getElem_mem hlt))
      have HML : Hid (m ≤ S.length) := Lib.hid (by
        have h5 := Bm.runs_length h (S.take j)
        rw [List.length_take] at h5
        have := HM.out
        omega)
      generalize S[j] = x at e0 ci HSN HXB
      have HRN : Hid (Bm.runs h (S.take (j + 1)) = Bm.push (Bm.runs h (S.take j)) x (decide (x ∈ h))) := Lib.hid (by rw [HSN.out, Bm.runs_snoc])
      generalize decide (x ∈ h) = q at ci HRN
      have hwx : IntKind.i64.wrap (x + 1) = x + 1 := IntWalk.i64_in _ (by have := HXB.out; omega)
      clear hcs HSN
      rcases Nat.eq_zero_or_pos m with hm0 | hm0
      · subst hm0
        have hl0 : Bm.runs h (S.take j) = [] := List.eq_nil_of_length_eq_zero HM.out.symm
        rw [hl0] at HO HRN
        rw [Bm.push_nil] at HRN
        clear hl0
        go_wp2_with (first
          | (go_at_call 10; (with_reducible refine ci.mono ?_); rintro e w2 ⟨rfl, rfl⟩; clear ci)
          | (at_builtin; refine wpList_append_one (o := ⟨some 58, _, _, _, _, _⟩) rfl (.tmp 51) (.tmp 57) 43 rfl w1.heap.size 48 i0 (.agg #[.int .i64 0, .int .i64 0, .bool false]) 3 24 Tryd.underlying43 HI0.out HZ.out HSZ.out HBY.out rfl (by decide) _ 0 (runV []) rfl (HO.out.alloc _) ⟨wr.heap.size, 0, none⟩ 1 [.int .i64 x, .int .i64 (x + 1), .bool q] rfl rfl (new_cells wr _ #[.int .i64 x, .int .i64 (x + 1), .bool q]) (runV_one [(x, x + 1, q)]) (by omega) (by omega) (HB.out.alloc HB.out.size _).size ?_; intro v2 w2 HO2 HG2))
        obtain ⟨A2, c2, rfl, -, -⟩ := Vs.of_ownN HO2.out
        go_roundw
        case rel =>
          have hb2 := HB.out.alloc HB.out.size (.cells #[.int .i64 x, .int .i64 (x + 1), .bool q] 48)
          exact ⟨j + 1, A2, c2, 1, by omega, by go_num, rfl, Lib.hid (by rw [HRN.out]; rfl), Lib.hid (by rw [HRN.out]; exact OwnR.more (L := []) (x := (x, x + 1, q)) HO2.out), Lib.hid (hb2.grown HG2.out hb2.size (fun p hp => (HO.out.lt p hp).1))⟩
        case measure => simp [intOf]; omega
      · obtain ⟨k, hk⟩ : ∃ k, k + 1 = m := ⟨m - 1, by omega⟩
        obtain ⟨L, hL⟩ : ∃ L, L = Bm.runs h (S.take j) := ⟨_, rfl⟩
        rw [← hL] at HM HO HRN
        clear hL
        have hkl : k + 1 = L.length := by rw [hk]; exact HM.out
        obtain ⟨g, c9, e9, hbg, hgl, o0, o1, o2, f1⟩ := HO.out.last hkl
        have e8 : A' = some ⟨g, 0, none⟩ := by injection e9
        subst e8
        clear e9 c9
        have hw1 : IntKind.i64.wrap ((m : Int) - 1) = (k : Int) := by rw [IntWalk.i64_in _ (by have := HML.out; omega)]; omega
        have hmp : decide ((0 : Int) < (m : Int)) = true := decide_eq_true (by omega)
        have hkm : (k : Int) < (m : Int) := by omega
        have hkm2 : k < m := by omega
        have HS1 : Hid (∀ y, OwnR (wr.setCell ⟨g, k * 3 + 1, none⟩ (.int .i64 y)) w1.heap.size (.slice (some ⟨g, 0, none⟩) m c') (L.set k ((L[k]'(by omega)).1, y, (L[k]'(by omega)).2.2))) := Lib.hid fun y => by
          have := OwnR.set1 (k := k) (by rw [hk]; exact HO.out) hkl y
          rwa [hk] at this
        have hpm := fun a b => Bm.push_more (L := L) (i := x) (q := q) k hkl a b
        have hpn := fun a => Bm.push_new (L := L) (i := x) (q := q) k hkl a
        obtain ⟨r, hr⟩ : ∃ r, r = (L[k]'(by omega)) := ⟨_, rfl⟩
        rw [← hr] at o0 o1 o2 HS1
        simp only [← hr] at hpm hpn
        have HGG := Lib.hid (And.intro hbg hgl)
        have HON : Hid (wr.ownsRow w1.heap.size 48 3 (.slice (some ⟨g, 0, none⟩) m c') m (runV L)) := Lib.hid (by
          have h9 : wr.ownsRow w1.heap.size 48 3 (.slice (some ⟨g, 0, none⟩) m c') L.length (runV L) := HO.out
          rwa [← hkl, hk] at h9)
        have HNM := Lib.hid (And.intro hk hkl)
        clear hr
        obtain ⟨ra, ro, rq⟩ := r
        dsimp only at o0 o1 o2 hpm hpn
        by_cases hro : ro = x
        · have hto : (ro == x) = true := by simp [hro]
          by_cases hrq : rq = q
          · have htq : (rq == q) = true := by simp [hrq]
            have HP := Lib.hid (hpm hro hrq)
            clear hpm hpn hkl hbg hgl o0 hro hrq hk
            go_wp2_with (go_at_call 10; (with_reducible refine ci.mono ?_); rintro e w2 ⟨rfl, rfl⟩; clear ci)
            go_roundw
            case rel => exact ⟨j + 1, some ⟨g, 0, none⟩, c', m, by omega, by go_num, rfl, Lib.hid (by rw [HRN.out, HP.out, List.length_set, ← HNM.out.2, HNM.out.1]), Lib.hid (by rw [HRN.out, HP.out]; exact HS1.out (x + 1)), Lib.hid (HB.out.setCell HGG.out.1 _)⟩
            case measure => simp [intOf]; omega
          · have htq : (rq == q) = false := by simp [hrq]
            have HP := Lib.hid (hpn (fun hh => hrq hh.2))
            clear hpm hpn hkl hbg hgl o0 hro hrq hk
            go_wp2_with (first
              | (go_at_call 10; (with_reducible refine ci.mono ?_); rintro e w2 ⟨rfl, rfl⟩; clear ci)
              | (at_builtin; refine wpList_append_one (o := ⟨some 58, _, _, _, _, _⟩) rfl (.tmp 51) (.tmp 57) 43 rfl w1.heap.size 48 i0 (.agg #[.int .i64 0, .int .i64 0, .bool false]) 3 24 Tryd.underlying43 HI0.out HZ.out HSZ.out HBY.out rfl (by decide) _ m (runV L) rfl (World.ownsRow.alloc HON.out _) ⟨wr.heap.size, 0, none⟩ 1 [.int .i64 x, .int .i64 (x + 1), .bool q] rfl rfl (new_cells wr _ #[.int .i64 x, .int .i64 (x + 1), .bool q]) (runV_one [(x, x + 1, q)]) (by have := HML.out; omega) (by have := HML.out; omega) (HB.out.alloc HB.out.size _).size ?_; intro v2 w2 HO2 HG2))
            obtain ⟨A2, c2, rfl, -, -⟩ := Vs.of_ownN HO2.out
            go_roundw
            case rel =>
              have hb2 := HB.out.alloc HB.out.size (.cells #[.int .i64 x, .int .i64 (x + 1), .bool q] 48)
              exact ⟨j + 1, A2, c2, m + 1, by omega, by go_num, rfl, Lib.hid (by rw [HRN.out, HP.out, List.length_append, ← HNM.out.2, HNM.out.1]; rfl), Lib.hid (by rw [HRN.out, HP.out]; exact OwnR.more (L := L) (x := (x, x + 1, q)) (by rw [← HNM.out.2, HNM.out.1]; exact HO2.out)), Lib.hid (hb2.grown HG2.out hb2.size (fun p hp => (HO.out.lt p hp).1))⟩
            case measure => simp [intOf]; omega
        · have hto : (ro == x) = false := by simp [hro]
          have HP := Lib.hid (hpn (fun hh => hro hh.1))
          clear hpm hpn hkl hbg hgl o0 hro hk
          go_wp2_with (first
            | (go_at_call 10; (with_reducible refine ci.mono ?_); rintro e w2 ⟨rfl, rfl⟩; clear ci)
            | (at_builtin; refine wpList_append_one (o := ⟨some 58, _, _, _, _, _⟩) rfl (.tmp 51) (.tmp 57) 43 rfl w1.heap.size 48 i0 (.agg #[.int .i64 0, .int .i64 0, .bool false]) 3 24 Tryd.underlying43 HI0.out HZ.out HSZ.out HBY.out rfl (by decide) _ m (runV L) rfl (World.ownsRow.alloc HON.out _) ⟨wr.heap.size, 0, none⟩ 1 [.int .i64 x, .int .i64 (x + 1), .bool q] rfl rfl (new_cells wr _ #[.int .i64 x, .int .i64 (x + 1), .bool q]) (runV_one [(x, x + 1, q)]) (by have := HML.out; omega) (by have := HML.out; omega) (HB.out.alloc HB.out.size _).size ?_; intro v2 w2 HO2 HG2))
          obtain ⟨A2, c2, rfl, -, -⟩ := Vs.of_ownN HO2.out
          go_roundw
          case rel =>
            have hb2 := HB.out.alloc HB.out.size (.cells #[.int .i64 x, .int .i64 (x + 1), .bool q] 48)
            exact ⟨j + 1, A2, c2, m + 1, by omega, by go_num, rfl, Lib.hid (by rw [HRN.out, HP.out, List.length_append, ← HNM.out.2, HNM.out.1]; rfl), Lib.hid (by rw [HRN.out, HP.out]; exact OwnR.more (L := L) (x := (x, x + 1, q)) (by rw [← HNM.out.2, HNM.out.1]; exact HO2.out)), Lib.hid (hb2.grown HG2.out hb2.size (fun p hp => (HO.out.lt p hp).1))⟩
          case measure => simp [intOf]; omega
    · obtain rfl : j = S.length := by omega
      have HT : Hid (S.take S.length = S) := Lib.hid (List.take_length)
      go_wp2
      go_ret
      have ho := HO.out
      have hm := HM.out
      rw [HT.out] at ho hm
      obtain ⟨A9, c9, e9, hr, hc⟩ := ho.rs
      rw [e9]
      exact ⟨A9, c9, rfl, hr, hc, HB1.out.trans (HB.out.mono HB1.out.size)⟩
end Go.Proofs.YtgfafcolfcdkdaaDoor
