/-
  The document's device: Find, Read, Dirty.
-/
import Derived.Test.YtndbjdnfibpicaaRFlashRefFull
namespace Go.Proofs.YtndbjdnfibpicaaR
open Go.ChangeShapes Go.WideShapes Go.ChangeAt Go.RowKit Fl
set_option maxRecDepth 100000

theorem dirt_snoc (M : List Pg) (q : Pg) : dirt (M ++ [q]) = dirt M ++ (if q.dirty then [addr q] else []) := by
  unfold dirt
  rw [List.filter_append, List.map_append]
  cases h : q.dirty <;> simp [h]
/-- a row of pages, cell by cell -/
theorem own_quad {w : World} {g n c : Nat} {Q : List (Pg × Value)} (h : w.ownsRow 0 93 4 (.slice (some ⟨g, 0, none⟩) n c) n (quads Q)) (hn : Q.length = n) {j : Nat} (hj : j < n) :
    w.cell? ⟨g, j * 4, none⟩ = some (.int .i64 (Q[j]'(by omega)).1.seg) ∧ w.cell? ⟨g, j * 4 + 1, none⟩ = some (.int .i64 (Q[j]'(by omega)).1.page) ∧ w.cell? ⟨g, j * 4 + 2, none⟩ = some (Q[j]'(by omega)).2 ∧ w.cell? ⟨g, j * 4 + 3, none⟩ = some (.bool (Q[j]'(by omega)).1.dirty) ∧ w.frozen? ⟨g, j * 4 + 3, none⟩ = false := by
  obtain ⟨q0, q1, q2, q3⟩ := quads_get Q j (by omega)
  exact ⟨(h.cellAt (j * 4) (by omega)).trans q0, (h.cellAt (j * 4 + 1) (by omega)).trans q1, (h.cellAt (j * 4 + 2) (by omega)).trans q2, (h.cellAt (j * 4 + 3) (by omega)).trans q3, h.frozenAt _⟩
theorem own_form {w : World} {T size n : Nat} {u : Value} {xs : List Value} (h : w.ownsRow 0 T size u n xs) : (∃ c, u = .slice none n c ∧ n = 0) ∨ ∃ g c, u = .slice (some ⟨g, 0, none⟩) n c ∧ g < w.heap.size ∧ n ≤ c := by
  rcases h.2 with ⟨rfl, h0⟩ | ⟨g, c, cur, rfl, _, hg, hnc, _⟩
  · exact .inl ⟨0, by rw [h0], h0⟩
  · exact .inr ⟨g, c, rfl, (Array.getElem?_eq_some_iff.1 hg).1, hnc⟩
theorem own_len {w : World} {T size n : Nat} {u : Value} {xs : List Value} (h : w.ownsRow 0 T size u n xs) : ∃ A c, u = .slice A n c := by
  rcases own_form h with ⟨c, rfl, _⟩ | ⟨g, c, rfl, _⟩
  · exact ⟨_, _, rfl⟩
  · exact ⟨_, _, rfl⟩
section
variable {k S P B xb : Nat} {w : World} {v : Nat → Nat} {L : List Pg}
/-- where a page is in the row -/
def FindTo (L : List Pg) (s p : Int) (w : World) (e : Ending) (w' : World) : Prop :=
  Below w.heap.size w w' ∧ ((lk L s p = none ∧ e = .returned (.int .i64 (-1))) ∨ ∃ j, ∃ hj : j < L.length, L[j].seg = s ∧ L[j].page = p ∧ lk L s p = some L[j].raw ∧ e = .returned (.int .i64 j))
set_option maxHeartbeats 2000000 in
theorem find_any (h : Rdv w v k S P B xb L) (s p : Int) (hL : L.length ≤ 100000) : Calls Try.prog 41 #[.pointer (some ⟨xb, 0, none⟩), .int .i64 s, .int .i64 p] w (FindTo L s p w) := by
  obtain ⟨u, Q, -, -, -, -, c3, -, hQ, hown, -, hdat⟩ := h.four
  obtain ⟨A, cu, rfl⟩ := own_len hown
  have HDT : Hid (∀ q ∈ Q, ∃ A n c, q.2 = .slice A n c) := Lib.hid fun q hq => by
    obtain ⟨A, c, e, _⟩ := hdat q hq
    exact ⟨A, _, c, e⟩
  have HO := Lib.hid hown
  have HAP := Lib.hid h.ok.ap
  have HQ := Lib.hid hQ
  have HQL : Hid (Q.length = L.length) := Lib.hid (by rw [← hQ, List.length_map])
  clear h hown hQ hdat
  go_enter Try.func41, Try.ntmps41
  go_wp2
  obtain ⟨N, hN⟩ : ∃ N, N = L.length := ⟨_, rfl⟩
  rw [← hN] at HO hL HQL c3 ⊢
  have HN := Lib.hid hN
  clear hN
  go_loopw [7, 8, 14] (fun _ _ i wr => ∃ j : Nat, j ≤ N ∧ i = .int .i64 j ∧ Hid (∀ q ∈ L.take j, at_ s p q = false) ∧ Hid (Below w.heap.size w wr)) (fun _ _ i _ => N - (intOf i).toNat)
  case atStart => exact ⟨0, Nat.zero_le _, rfl, Lib.hid (by simp), Lib.hid (Below.refl _ _)⟩
  case round =>
    obtain ⟨j, hj, rfl, HA, HB⟩ := hrel
    by_cases hlt : j < N
    · rcases own_form HO.out with ⟨_, _, h0⟩ | ⟨g, c', he, hgl, _⟩
      · omega
      injection he with he _ _
      subst he
      obtain ⟨e0, e1, e2, e3, -⟩ := own_quad HO.out HQL.out hlt
      have hjL : j < L.length := by rw [← HN.out]; exact hlt
      have hLQ : L[j] = (Q[j]'(by rw [HQL.out]; exact hlt)).1 := by simp [← HQ.out]
      rw [← hLQ] at e0 e1 e3
      have d0 := (HB.out.cell (p := ⟨g, j * 4, none⟩) hgl).trans e0
      have d1 := (HB.out.cell (p := ⟨g, j * 4 + 1, none⟩) hgl).trans e1
      have d2 := (HB.out.cell (p := ⟨g, j * 4 + 2, none⟩) hgl).trans e2
      have d3 := (HB.out.cell (p := ⟨g, j * 4 + 3, none⟩) hgl).trans e3
      have HYES : Hid (L[j].seg = s → L[j].page = p → lk L s p = some L[j].raw) := Lib.hid fun h1 h2 => by rw [← h1, ← h2]; exact lk_mem HAP.out (List.getElem_mem hjL)
      have HNO : Hid (¬ (L[j].seg = s ∧ L[j].page = p) → ∀ q ∈ L.take (j + 1), at_ s p q = false) := Lib.hid fun hne q hq => by
        rw [List.take_succ_eq_append_getElem hjL] at hq
        rcases List.mem_append.1 hq with hq | hq
        · exact HA.out q hq
        · simp only [List.mem_singleton] at hq
          subst hq
          simpa [at_] using hne
      have HRES : Hid (∀ w', Below w.heap.size w w' → L[j].seg = s → L[j].page = p → FindTo L s p w (.returned (.int .i64 j)) w') := Lib.hid fun w' hb h1 h2 => ⟨hb, .inr ⟨j, hjL, h1, h2, HYES.out h1 h2, rfl⟩⟩
      obtain ⟨A2, m2, c2, hx2⟩ := HDT.out _ (List.getElem_mem (show j < Q.length by rw [HQL.out]; exact hlt))
      rw [hx2] at d2
      clear e0 e1 e2 e3 hLQ HYES hx2
      generalize L[j].seg = s2 at d0 HNO HRES
      generalize L[j].page = p2 at d1 HNO HRES
      generalize L[j].dirty = b2 at d3
      by_cases hs : s2 = s
      · have hse : (s2 == s) = true := by simpa using hs
        by_cases hp : p2 = p
        · have hpe : (p2 == p) = true := by simpa using hp
          have HR2 : Hid (∀ w', Below w.heap.size w w' → FindTo L s p w (.returned (.int .i64 j)) w') := Lib.hid fun w' hb => HRES.out w' hb hs hp
          clear hs hp HRES HNO
          go_wp2
          go_ret
          exact HR2.out _ (HB.out.alloc HB.out.size _)
        · have hpe : (p2 == p) = false := by simpa using hp
          have HN2 := Lib.hid (HNO.out fun h => hp h.2)
          clear hs hp HRES HNO
          go_wp2
          go_roundw
          case rel => exact ⟨j + 1, by omega, by go_num, HN2, Lib.hid (HB.out.alloc HB.out.size _)⟩
          case measure => simp [intOf]; omega
      · have hse : (s2 == s) = false := by simpa using hs
        have HN2 := Lib.hid (HNO.out fun h => hs h.1)
        clear hs HRES HNO
        go_wp2
        go_roundw
        case rel => exact ⟨j + 1, by omega, by go_num, HN2, Lib.hid (HB.out.alloc HB.out.size _)⟩
        case measure => simp [intOf]; omega
    · obtain rfl : j = N := by omega
      have HA2 : Hid (lk L s p = none) := Lib.hid (by have := HA.out; rw [HN.out, List.take_length] at this; exact lk_none.2 this)
      go_wp2
      go_ret
      exact ⟨HB.out, .inl ⟨HA2.out, rfl⟩⟩
/-- a page's bytes, wherever they lie -/
def RefReadTo (B : Nat) (L : List Pg) (s p : Int) (w : World) (e : Ending) (w' : World) : Prop :=
  ∃ A c, e = .returned (.slice A B c) ∧ Bs w' w'.heap.size A B (full B ((lk L s p).getD [])) ∧ Below w.heap.size w w'
set_option maxHeartbeats 2000000 in
theorem refRead_any (h : Rdv w v k S P B xb L) (s p : Int) (hL : L.length ≤ 100000) : Calls Try.prog 39 #[.pointer (some ⟨xb, 0, none⟩), .int .i64 s, .int .i64 p] w (RefReadTo B L s p w) := by
  have cf := find_any h s p hL
  have HD := Lib.hid h
  have hb1 := h.shp.b1
  have hb2 := h.shp.b2
  unfold FindTo at cf
  cases hlk : lk L s p with
  | none =>
    have hc : Calls Try.prog 41 #[.pointer (some ⟨xb, 0, none⟩), .int .i64 s, .int .i64 p] w fun e w' => e = .returned (.int .i64 (-1)) ∧ Below w.heap.size w w' := by
      refine cf.mono ?_
      rintro e w' ⟨hb, ⟨_, rfl⟩ | ⟨j, hj, _, _, h1, _⟩⟩
      · exact ⟨rfl, hb⟩
      · rw [hlk] at h1; cases h1
    have hfull : Hid (∀ W, Below w.heap.size w W → Calls Try.prog 55 #[.pointer (some ⟨xb, 0, none⟩), .slice none 0 0] W (FullTo B [] W)) := Lib.hid fun W hb => by
      obtain ⟨u, Q, hh, -⟩ := (HD.out.below hb).four
      exact full_at hh none 0 0 [] (Bs.nil _ _ _) (by omega) hb2 (by omega)
    have HLK := Lib.hid hlk
    clear cf h hlk
    unfold RefReadTo
    go_enter Try.func39, Try.ntmps39
    go_wp2_with (first
      | (go_at_call 41; (with_reducible refine hc.mono ?_); rintro e w1 ⟨rfl, hb1⟩)
      | (go_at_call 55; (with_reducible refine (hfull.out _ hb1).mono ?_); rintro e w2 ⟨A2, c2, rfl, hc2, hs2, _, _, hb3⟩))
    go_ret
    exact ⟨A2, c2, rfl, by rw [HLK.out]; exact hs2, hb1.trans (hb3.mono hb1.size)⟩
  | some r =>
    have hc : Calls Try.prog 41 #[.pointer (some ⟨xb, 0, none⟩), .int .i64 s, .int .i64 p] w fun e w' => ∃ j, ∃ hj : j < L.length, L[j].raw = r ∧ e = .returned (.int .i64 j) ∧ Below w.heap.size w w' := by
      refine cf.mono ?_
      rintro e w' ⟨hb, ⟨h1, _⟩ | ⟨j, hj, _, _, h1, rfl⟩⟩
      · rw [hlk] at h1; cases h1
      · rw [hlk] at h1
        injection h1 with h1
        exact ⟨j, hj, h1.symm, rfl, hb⟩
    have HJ : Hid (∀ W j, Below w.heap.size w W → ∀ hj : j < L.length, ∃ g cu A c, W.cell? ⟨xb, 3, none⟩ = some (.slice (some ⟨g, 0, none⟩) L.length cu) ∧ W.cell? ⟨g, j * 4 + 2, none⟩ = some (.slice A B c) ∧ Bs W W.heap.size A B (full B L[j].raw)) := Lib.hid fun W j hb hj => by
      obtain ⟨u, Q, -, -, -, -, c3, -, hQ, hown, -, hdat⟩ := (HD.out.below hb).four
      rcases own_form hown with ⟨_, _, h0⟩ | ⟨g, c', rfl, hgl, _⟩
      · omega
      have hQL : Q.length = L.length := by rw [← hQ, List.length_map]
      obtain ⟨-, -, e2, -, -⟩ := own_quad hown hQL hj
      obtain ⟨A, c, hx, hc, hbs, -⟩ := hdat _ (List.getElem_mem (show j < Q.length by omega))
      have hLQ : L[j] = (Q[j]'(by omega)).1 := by simp [← hQ]
      rw [full_length] at hx hbs
      rw [hx] at e2
      exact ⟨g, c', A, c, c3, e2, by rw [hLQ]; exact hbs⟩
    have HLK := Lib.hid hlk
    clear cf h hlk
    unfold RefReadTo
    obtain ⟨N, hN⟩ : ∃ N, N = L.length := ⟨_, rfl⟩
    have HN := Lib.hid hN
    rw [← hN] at hL
    clear hN
    go_enter Try.func39, Try.ntmps39
    go_wp2_with (go_at_call 41; (with_reducible refine hc.mono ?_); rintro e w1 ⟨j, hj, hr, rfl, hb1⟩; obtain ⟨g, cu, A, c, k1, k2, k3⟩ := HJ.out _ j hb1 hj; have K3 := Lib.hid k3; have HR := Lib.hid hr; rw [← HN.out] at k1; have hjN : j < N := (by rw [HN.out]; exact hj); clear k3 hr)
    go_ret
    exact ⟨A, c, rfl, by have := K3.out; rw [HR.out] at this; rw [HLK.out]; exact this, hb1⟩
set_option maxHeartbeats 2000000 in
theorem refDirty_any (h : Rdv w v k S P B xb L) (hL : L.length ≤ 100000) : Calls Try.prog 36 #[.pointer (some ⟨xb, 0, none⟩)] w fun e w' => e = .returned (.int .i64 ((dirt L).length : Nat)) ∧ Below w.heap.size w w' := by
  obtain ⟨u, Q, -, -, -, -, c3, -, hQ, hown, -, hdat⟩ := h.four
  obtain ⟨A, cu, rfl⟩ := own_len hown
  have HDT : Hid (∀ q ∈ Q, ∃ A n c, q.2 = .slice A n c) := Lib.hid fun q hq => by
    obtain ⟨A, c, e, _⟩ := hdat q hq
    exact ⟨A, _, c, e⟩
  have HO := Lib.hid hown
  have HQ := Lib.hid hQ
  have HQL : Hid (Q.length = L.length) := Lib.hid (by rw [← hQ, List.length_map])
  clear h hown hQ hdat
  go_enter Try.func36, Try.ntmps36
  go_wp2
  obtain ⟨N, hN⟩ : ∃ N, N = L.length := ⟨_, rfl⟩
  rw [← hN] at HO hL HQL c3 ⊢
  have HN := Lib.hid hN
  clear hN
  go_loopw [3, 5, 11] (fun n _ i wr => ∃ j m : Nat, j ≤ N ∧ m ≤ j ∧ i = .int .i64 j ∧ n = .int .i64 m ∧ Hid (m = (dirt (L.take j)).length) ∧ Hid (Below w.heap.size w wr)) (fun _ _ i _ => N - (intOf i).toNat)
  case atStart => exact ⟨0, 0, Nat.zero_le _, Nat.le_refl _, rfl, rfl, Lib.hid (by simp [dirt]), Lib.hid (Below.refl _ _)⟩
  case round =>
    obtain ⟨j, m, hj, hm, rfl, rfl, HM, HB⟩ := hrel
    by_cases hlt : j < N
    · rcases own_form HO.out with ⟨_, _, h0⟩ | ⟨g, c', he, hgl, _⟩
      · omega
      injection he with he _ _
      subst he
      obtain ⟨e0, e1, e2, e3, -⟩ := own_quad HO.out HQL.out hlt
      have hjL : j < L.length := by rw [← HN.out]; exact hlt
      have hLQ : L[j] = (Q[j]'(by rw [HQL.out]; exact hlt)).1 := by simp [← HQ.out]
      rw [← hLQ] at e0 e1 e3
      have d0 := (HB.out.cell (p := ⟨g, j * 4, none⟩) hgl).trans e0
      have d1 := (HB.out.cell (p := ⟨g, j * 4 + 1, none⟩) hgl).trans e1
      have d2 := (HB.out.cell (p := ⟨g, j * 4 + 2, none⟩) hgl).trans e2
      have d3 := (HB.out.cell (p := ⟨g, j * 4 + 3, none⟩) hgl).trans e3
      have HD1 : Hid (L[j].dirty = true → (dirt (L.take (j + 1))).length = m + 1) := Lib.hid fun h1 => by
        rw [List.take_succ_eq_append_getElem hjL, HM.out, dirt_snoc, h1, List.length_append]
        rfl
      have HD0 : Hid (L[j].dirty = false → (dirt (L.take (j + 1))).length = m) := Lib.hid fun h1 => by
        rw [List.take_succ_eq_append_getElem hjL, HM.out, dirt_snoc, h1, List.length_append]
        rfl
      obtain ⟨A2, m2, c2, hx2⟩ := HDT.out _ (List.getElem_mem (show j < Q.length by rw [HQL.out]; exact hlt))
      rw [hx2] at d2
      clear e0 e1 e2 e3 hLQ hx2
      generalize L[j].seg = s2 at d0
      generalize L[j].page = p2 at d1
      generalize L[j].dirty = b2 at d3 HD0 HD1
      cases b2
      · have HE := Lib.hid (HD0.out rfl).symm
        clear HD0 HD1
        go_wp2
        go_roundw
        case rel => exact ⟨j + 1, m, by omega, by omega, by go_num, rfl, HE, Lib.hid (HB.out.alloc HB.out.size _)⟩
        case measure => simp [intOf]; omega
      · have HE := Lib.hid (HD1.out rfl).symm
        clear HD0 HD1
        go_wp2
        go_roundw
        case rel => exact ⟨j + 1, m + 1, by omega, by omega, by go_num, by go_num, HE, Lib.hid (HB.out.alloc HB.out.size _)⟩
        case measure => simp [intOf]; omega
    · obtain rfl : j = N := by omega
      have HM2 : Hid (m = (dirt L).length) := Lib.hid (by have := HM.out; rwa [HN.out, List.take_length] at this)
      go_wp2
      go_ret
      refine ⟨?_, HB.out⟩
      rw [HM2.out]
      rfl
end
end Go.Proofs.YtndbjdnfibpicaaR
