/-
  The document's device: Sync, Erase.
-/
import Derived.Test.YtndbjdnfibpicaaRFlashRefRead
import Derived.Test.YtndbjdnfibpicaaRMBytes
import Derived.Maps.AppendAt
import Derived.Deep.AppendLies
namespace Go.Proofs.YtndbjdnfibpicaaR
open Go.ChangeShapes Go.WideShapes Go.ChangeAt Go.RowKit Fl
set_option maxRecDepth 100000

def clr (q : Pg × Value) : Pg × Value := ({ q.1 with dirty := false }, q.2)
theorem clr_step {Q : List (Pg × Value)} {j : Nat} (hj : j < Q.length) :
    ((Q.take j).map clr ++ Q.drop j).set j (clr Q[j]) = (Q.take (j + 1)).map clr ++ Q.drop (j + 1) := by
  rw [List.set_append_right _ _ (by simp; omega), List.take_succ_eq_append_getElem hj, List.map_append, List.append_assoc]
  congr 1
  rw [List.length_map, List.length_take, Nat.min_eq_left (by omega), Nat.sub_self, List.drop_eq_getElem_cons hj]
  rfl
theorem clr_get {Q : List (Pg × Value)} {j : Nat} (hj : j < Q.length) (h : j < ((Q.take j).map clr ++ Q.drop j).length) : ((Q.take j).map clr ++ Q.drop j)[j] = Q[j] := by
  have e : ((Q.take j).map clr ++ Q.drop j)[j]? = Q[j]? := by
    rw [List.getElem?_append_right (by simp; omega), List.getElem?_drop]
    congr 1
    simp
    omega
  rw [List.getElem?_eq_getElem h, List.getElem?_eq_getElem hj] at e
  exact Option.some.inj e
/-- the colours with that row's block among those of k -/
def pl (v : Nat → Nat) (l : Value) (k : Nat) : Nat → Nat := fun i => if l.ownBlock = some i then k else v i
theorem pl_own {v : Nat → Nat} {l : Value} {k g : Nat} (h : l.ownBlock = some g) : pl v l k g = k := by simp [pl, h]
theorem pl_other {v : Nat → Nat} {l : Value} {k i : Nat} (h : l.ownBlock ≠ some i) : pl v l k i = v i := by simp [pl, h]
theorem pl_paint {v : Nat → Nat} {l : Value} {k g : Nat} (h : l.ownBlock = some g) : pl v l k = paint v g k := by
  funext i
  unfold pl paint
  rw [h]
  by_cases e : i = g
  · subst e; simp
  · have : ¬ some g = some i := by intro e2; injection e2 with e2; exact e e2.symm
    rw [if_neg this, if_neg e]
theorem pl_none {v : Nat → Nat} {l : Value} {k : Nat} (h : l.ownBlock = none) : pl v l k = v := by
  funext i
  simp [pl, h]
/-- bytes stay when a row is appended to -/
theorem Dt.row {w w2 : World} {v : Nat → Nat} {l x : Value} {d : List UInt8} {k g n c : Nat} (h : Dt w (pl v l k) x d) (hg : w.grownBy w2 l.ownBlock) (hat : l.ownBlock = some g ∨ w.heap.size ≤ g) (hk : k ≠ 0) : Dt w2 (pl v (.slice (some ⟨g, 0, none⟩) n c) k) x d := by
  obtain ⟨A, c, rfl, hc, hb, hno, hv⟩ := h
  have key : ∀ a, 0 < d.length → A = some a → l.ownBlock ≠ some a.block ∧ v a.block = 0 ∧ a.block < w.heap.size := fun a h0 ha => by
    have h1 := hv h0 a ha
    obtain ⟨b, off, e, hlt, _⟩ := hb.2 h0
    rw [ha] at e
    injection e with e
    subst e
    have h2 : l.ownBlock ≠ some b := fun e2 => by rw [pl_own e2] at h1; exact hk h1
    exact ⟨h2, by rw [pl_other h2] at h1; exact h1, hlt⟩
  refine ⟨A, c, rfl, hc, ⟨rfl, fun h0 => ?_⟩, hno, fun h0 a ha => ?_⟩
  · obtain ⟨b, off, rfl, hlt, hx⟩ := hb.2 h0
    obtain ⟨h2, _, _⟩ := key _ h0 rfl
    exact ⟨b, off, rfl, Nat.lt_of_lt_of_le hlt hg.size, fun j hj => (hg.cell_far ⟨b, off + j, none⟩ hlt (fun e => h2 e.symm)).trans (hx j hj)⟩
  · obtain ⟨h2, h3, h4⟩ := key a h0 ha
    rw [pl_other]
    · exact h3
    · intro e
      injection e with e
      rcases hat with h5 | h5
      · exact h2 (by rw [h5]; exact congrArg some e)
      · dsimp only at e; omega
/-- .. and bytes that the row can't reach -/
theorem Dt.far {w : World} {v : Nat → Nat} {l x : Value} {d : List UInt8} {k : Nat} (h : Dt w v x d) (hl : ∀ g, l.ownBlock = some g → w.heap.size ≤ g ∨ v g ≠ 0) : Dt w (pl v l k) x d := by
  obtain ⟨A, c, rfl, hc, hb, hno, hv⟩ := h
  refine ⟨A, c, rfl, hc, hb, hno, fun h0 a ha => ?_⟩
  have h1 := hv h0 a ha
  obtain ⟨b, off, e, hlt, _⟩ := hb.2 h0
  rw [ha] at e
  injection e with e
  subst e
  rw [pl_other]
  · exact h1
  · intro e
    rcases hl _ e with h2 | h2
    · dsimp only at h2; omega
    · exact h2 h1
section
variable {k S P B xb : Nat} {w : World} {v : Nat → Nat} {L : List Pg}
set_option maxHeartbeats 2000000 in
theorem refSync_any (h : Rdv w v k S P B xb L) (hk : k ≠ 0) (hL : L.length ≤ 100000) : Calls Try.prog 32 #[.pointer (some ⟨xb, 0, none⟩)] w fun e w' => e = .returned (.tuple #[]) ∧ Rdv w' v k S P B xb (sync L) ∧ Stp k w w' v v := by
  obtain ⟨u, Q, hh, -, -, -, -, -, hQ, hown, hub, hdat⟩ := h.four
  have HD := Lib.hid h
  have HH := Lib.hid hh
  have HO := Lib.hid hown
  have HUB := Lib.hid hub
  have HQ := Lib.hid hQ
  have HDAT := Lib.hid hdat
  obtain ⟨N, hN⟩ : ∃ N, N = L.length := ⟨_, rfl⟩
  have HQL : Hid (Q.length = N) := Lib.hid (by rw [hN, ← hQ, List.length_map])
  rw [← hN] at HO hL
  have HN := Lib.hid hN
  obtain ⟨A, cu, rfl⟩ := own_len HO.out
  have c3 : w.cell? ⟨xb, 3, none⟩ = some (.slice A N cu) := by simp [World.cell?, hh]
  clear h hown hQ hdat hub hh hN
  go_enter Try.func32, Try.ntmps32
  go_wp2
  go_loopw [2, 8] (fun _ i wr => ∃ j : Nat, j ≤ N ∧ i = .int .i64 j ∧ Hid (wr.ownsRow 0 93 4 (.slice A N cu) N (quads ((Q.take j).map clr ++ Q.drop j))) ∧ Hid (w.grownBy wr (Value.slice A N cu).ownBlock)) (fun _ i _ => N - (intOf i).toNat)
  case atStart => exact ⟨0, Nat.zero_le _, rfl, by simpa using HO, Lib.hid ⟨rfl, rfl, rfl, Nat.le_refl _, fun _ _ _ => rfl⟩⟩
  case round =>
    obtain ⟨j, hj, rfl, HR, HG⟩ := hrel
    have hxb : some xb ≠ (Value.slice A N cu).ownBlock := fun e => (HUB.out xb e.symm).2 rfl
    have c3r := HG.out.cell c3 hxb
    by_cases hlt : j < N
    · rcases own_form HO.out with ⟨_, _, h0⟩ | ⟨g, c', he, hgl, _⟩
      · omega
      injection he with he _ _
      subst he
      have hjQ : j < Q.length := by rw [HQL.out]; exact hlt
      have hlen : ((Q.take j).map clr ++ Q.drop j).length = N := by simp; have := HQL.out; omega
      obtain ⟨-, -, -, e3, f3⟩ := own_quad HR.out hlen hlt
      rw [clr_get hjQ] at e3
      have HST := Lib.hid (quads_set ((Q.take j).map clr ++ Q.drop j) j (by omega) false)
      have hcg := clr_get hjQ (by omega)
      have HSET : Hid ((quads ((Q.take j).map clr ++ Q.drop j)).set (j * 4 + 3) (.bool false) = quads ((Q.take (j + 1)).map clr ++ Q.drop (j + 1))) := Lib.hid (by
        rw [quads_set _ j (by omega) false, ← clr_step hjQ, hcg]
        rfl)
      clear hcg HST
      generalize Q[j].1.dirty = b0 at e3
      go_wp2
      go_roundw
      case rel =>
        have hs := (HR.out.stored (j * 4 + 3) (.bool false)).1
        rw [HSET.out] at hs
        exact ⟨j + 1, by omega, by go_num, Lib.hid hs, Lib.hid (HG.out.trans ⟨rfl, rfl, rfl, by simp [World.setCell], fun i _ hi => Below.heap_setCell wr _ _ i fun e => hi (by rw [e]; rfl)⟩)⟩
      case measure => simp [intOf]; omega
    · obtain rfl : j = N := by omega
      have HR2 : Hid (wr.ownsRow 0 93 4 (.slice A j cu) j (quads (Q.map clr))) := Lib.hid (by
        have := HR.out
        rwa [List.take_of_length_le (by rw [HQL.out]; omega), List.drop_of_length_le (by rw [HQL.out]; omega), List.append_nil] at this)
      go_wp2
      go_end0
      have st : Stp k w wr v v := Stp.grown HG.out (fun g hg => (HUB.out g hg).1) HD.out.fr
      refine ⟨rfl, ⟨HD.out.shp, HD.out.ok.sync, st.fresh, HD.out.vx, ⟨_, Q.map clr, ?_, ?_, ?_, HUB.out, ?_⟩⟩, st⟩
      · exact (HG.out.block xb HD.out.ltx hxb).trans HH.out
      · rw [← HQ.out]
        simp [sync, clr, List.map_map]
      · rw [sync_length, ← HN.out]
        exact HR2.out
      · intro q hq
        obtain ⟨q0, hq0, rfl⟩ := List.mem_map.1 hq
        exact (HDAT.out q0 hq0).stp st hk
/-- a new row in the old one's place -/
theorem Rdv.relist (h : Rdv w v k S P B xb L) (hk : k ≠ 0) {M : List Pg} (hok : Ok S P B M) {w3 : World} (hb : Below w.heap.size w w3) {l : Value} {R : List (Pg × Value)} {n : Nat} (hown : w3.ownsRow w.heap.size 93 4 l n (quads R)) (hn : n = M.length)
    (hR : R.map Prod.fst = M) (hd : ∀ q ∈ R, Dt w3 (pl v l k) q.2 (full B q.1.raw)) : Rdv (w3.setCell ⟨xb, 3, none⟩ l) (pl v l k) k S P B xb M ∧ Stp k w (w3.setCell ⟨xb, 3, none⟩ l) v (pl v l k) := by
  have hx := h.ltx
  obtain ⟨u, Q, hh, -⟩ := h.cells
  have st3 : Stp k w w3 v v := Stp.below hb h.fr
  have hsz : (w3.setCell ⟨xb, 3, none⟩ l).heap.size = w3.heap.size := by simp [World.setCell]
  have hlt : ∀ g, l.ownBlock = some g → w.heap.size ≤ g ∧ g < w3.heap.size := fun g hg => hown.lt g hg
  have stp : Stp k w w3 v (pl v l k) := by
    cases hq : l.ownBlock with
    | none => rw [pl_none hq]; exact st3
    | some g => rw [pl_paint hq]; exact st3.paint k (hlt g hq).1 (hlt g hq).2
  have hvx : pl v l k xb = k := by
    rw [pl_other]
    · exact h.vx
    · intro e
      have := (hlt xb e).1
      omega
  have t4 : Stp k w3 (w3.setCell ⟨xb, 3, none⟩ l) (pl v l k) (pl v l k) := Stp.setCell (a := ⟨xb, 3, none⟩) hvx l stp.fresh
  have st4 := stp.trans t4
  have hh3 : w3.heap[xb]? = some (.cells #[.int .i64 S, .int .i64 P, .int .i64 B, u] 75 (0, 0)) := (hb.block xb hx).trans hh
  have hh4 : (w3.setCell ⟨xb, 3, none⟩ l).heap[xb]? = some (.cells #[.int .i64 S, .int .i64 P, .int .i64 B, l] 75 (0, 0)) := by
    simp [World.setCell, Array.getElem?_modify, hh3]
  have hgs : w3.grownBy (w3.setCell ⟨xb, 3, none⟩ l) (some xb) := ⟨rfl, rfl, rfl, by simp [World.setCell], fun i _ hi => Below.heap_setCell w3 _ _ i fun e => hi (by rw [e])⟩
  have hown0 : w3.ownsRow 0 93 4 l n (quads R) := by
    refine ⟨hown.1, ?_⟩
    rcases hown.2 with h1 | ⟨g, c, cur, h1, _, h2⟩
    · exact .inl h1
    · exact .inr ⟨g, c, cur, h1, Nat.zero_le _, h2⟩
  have hrow : (w3.setCell ⟨xb, 3, none⟩ l).ownsRow 0 93 4 l n (quads R) := by
    refine hown0.kept hgs ?_
    cases hq : l.ownBlock with
    | none => exact .inl rfl
    | some g => exact .inr (by have := (hlt g hq).1; intro e; injection e with e; omega)
  refine ⟨⟨h.shp, hok, st4.fresh, hvx, ⟨l, R, hh4, hR, by rw [← hn]; exact hrow, fun g hg => ⟨pl_own hg, ?_⟩, fun q hq => (hd q hq).stp t4 hk⟩⟩, st4⟩
  have := (hlt g hg).1
  omega
theorem own_slice9 {w : World} {base e size n : Nat} {u : Value} {xs : List Value} (h : w.ownsRow base e size u n xs) : ∃ A n c, u = .slice A n c := by
  rcases h.2 with ⟨rfl, _⟩ | ⟨g, c, cur, rfl, _⟩
  · exact ⟨_, _, _, rfl⟩
  · exact ⟨_, _, _, rfl⟩
def notIn (s : Int) (q : Pg × Value) : Bool := !decide (q.1.seg = s)
theorem map_notIn (s : Int) (Q : List (Pg × Value)) : (Q.filter (notIn s)).map Prod.fst = erase s (Q.map Prod.fst) := by
  unfold erase
  rw [List.filter_map]
  rfl
theorem notIn_next {Q : List (Pg × Value)} {s : Int} {j : Nat} (hj : j < Q.length) : (Q.take (j + 1)).filter (notIn s) = (Q.take j).filter (notIn s) ++ (if Q[j].1.seg = s then [] else [Q[j]]) := by
  rw [List.take_succ_eq_append_getElem hj, List.filter_append]
  congr 1
  by_cases h : Q[j].1.seg = s <;> simp [notIn, h]
set_option maxHeartbeats 4000000 in
theorem refErase_any (h : Rdv w v k S P B xb L) (hk : k ≠ 0) (s : Int) (hL : L.length ≤ 100000) :
    Calls Try.prog 52 #[.pointer (some ⟨xb, 0, none⟩), .int .i64 s] w fun e w' => e = .returned (.tuple #[]) ∧ ∃ v', Rdv w' v' k S P B xb (erase s L) ∧ Stp k w w' v v' := by
  obtain ⟨i0, hi, hz, hsz, hby⟩ := info_parts page_info
  have HI := Lib.hid hi
  have HZ := Lib.hid hz
  have HSZ := Lib.hid hsz
  have HBY := Lib.hid hby
  clear hi hz hsz hby
  obtain ⟨u, Q, hh, -, -, -, -, -, hQ, hown, hub, hdat⟩ := h.four
  have HD := Lib.hid h
  have HH := Lib.hid hh
  have HO := Lib.hid hown
  have HQ := Lib.hid hQ
  have HDAT := Lib.hid hdat
  obtain ⟨N, hN⟩ : ∃ N, N = L.length := ⟨_, rfl⟩
  have HQL : Hid (Q.length = N) := Lib.hid (by rw [hN, ← hQ, List.length_map])
  rw [← hN] at HO hL
  obtain ⟨A, cu, rfl⟩ := own_len HO.out
  have c3 : w.cell? ⟨xb, 3, none⟩ = some (.slice A N cu) := by simp [World.cell?, hh]
  clear h hown hQ hdat hub hh hN
  go_enter Try.func52, Try.ntmps52
  go_wp2
  go_loopw [4, 6, 12] (fun l _ i wr => ∃ j m : Nat, j ≤ N ∧ m ≤ j ∧ i = .int .i64 j ∧ Hid (m = ((Q.take j).filter (notIn s)).length) ∧ Hid (wr.ownsRow w.heap.size 93 4 l m (quads ((Q.take j).filter (notIn s)))) ∧ Hid (Below w.heap.size w wr)) (fun _ _ i _ => N - (intOf i).toNat)
  case atStart => exact ⟨0, 0, Nat.zero_le _, Nat.le_refl _, rfl, Lib.hid rfl, Lib.hid (World.ownsRow_nil _ _ _ _), Lib.hid (Below.refl _ _)⟩
  case round =>
    obtain ⟨j, m, hj, hmj, rfl, HM, HR, HB⟩ := hrel
    by_cases hlt : j < N
    · rcases own_form HO.out with ⟨_, _, h0⟩ | ⟨g, c', he, hgl, _⟩
      · omega
      injection he with he _ _
      subst he
      have hjQ : j < Q.length := by rw [HQL.out]; exact hlt
      obtain ⟨e0, e1, e2, e3, -⟩ := own_quad HO.out HQL.out hlt
      have d0 := (HB.out.cell (p := ⟨g, j * 4, none⟩) hgl).trans e0
      have d1 := (HB.out.cell (p := ⟨g, j * 4 + 1, none⟩) hgl).trans e1
      have d2 := (HB.out.cell (p := ⟨g, j * 4 + 2, none⟩) hgl).trans e2
      have d3 := (HB.out.cell (p := ⟨g, j * 4 + 3, none⟩) hgl).trans e3
      have hnx := notIn_next (s := s) hjQ
      obtain ⟨A2, c2, hx2, -⟩ := HDAT.out _ (List.getElem_mem hjQ)
      obtain ⟨⟨⟨s2, p2, r2, b2⟩, x2⟩, hq2⟩ : ∃ y, y = Q[j] := ⟨_, rfl⟩
      rw [← hq2] at d0 d1 d2 d3 hnx hx2
      dsimp only at d0 d1 d2 d3 hnx hx2
      subst hx2
      clear e0 e1 e2 e3 hq2
      by_cases hs : s2 = s
      · have hse : (s2 != s) = false := by simpa using hs
        rw [if_pos hs, List.append_nil] at hnx
        have HNX := Lib.hid hnx
        clear hs hnx
        go_wp2
        go_roundw
        case rel =>
          exact ⟨j + 1, m, by omega, by omega, by go_num, by rw [HNX.out]; exact HM, by rw [HNX.out]; exact Lib.hid (HR.out.alloc _), Lib.hid (HB.out.alloc HB.out.size _)⟩
        case measure => simp [intOf]; omega
      · have hse : (s2 != s) = true := by simpa using hs
        rw [if_neg hs] at hnx
        have HNX := Lib.hid hnx
        have HQ4 : Hid (quads [((⟨s2, p2, r2, b2⟩ : Pg), Value.slice A2 (full B r2).length c2)] = [.int .i64 s2, .int .i64 p2, .slice A2 (full B r2).length c2, .bool b2]) := Lib.hid rfl
        have HML : Hid (((Q.take j).filter (notIn s) ++ [((⟨s2, p2, r2, b2⟩ : Pg), Value.slice A2 (full B r2).length c2)]).length = m + 1) := Lib.hid (by rw [List.length_append, ← HM.out]; rfl)
        clear hs hnx
        generalize (Q.take j).filter (notIn s) = R at *
        go_wp2_with (at_builtin; refine wpList_append_one (o := ⟨some 24, _, _, _, _, _⟩) rfl (.tmp 21) (.tmp 23) 73 rfl w.heap.size 93 i0 _ 4 48 Try.underlying73 HI.out HZ.out HSZ.out HBY.out rfl (by decide) _ m (quads R) rfl ((HR.out.alloc _).alloc _) ⟨wr.heap.size + 1, 0, none⟩ 1 [.int .i64 s2, .int .i64 p2, .slice A2 (full B r2).length c2, .bool b2] rfl rfl (new_cells2 wr _ _ #[.int .i64 s2, .int .i64 p2, .slice A2 (full B r2).length c2, .bool b2]) (by simp [Value.oneCell']) (by omega) (by omega) (by have := HB.out.size; simp; omega) ?_; intro v2 w2 HO2 HG2)
        go_roundw
        case rel =>
          have hb2 := (HB.out.alloc HB.out.size (.cells #[.int .i64 s2, .int .i64 p2, .slice A2 (full B r2).length c2, .bool b2] 93))
          have hb3 := hb2.alloc hb2.size (.cells #[.int .i64 s2, .int .i64 p2, .slice A2 (full B r2).length c2, .bool b2] 93)
          have ho := HO2.out
          rw [← HQ4.out, quads_append] at ho
          refine ⟨_, _, _, ⟨j + 1, by omega, m + 1, by omega, by go_num, ?_, ?_, Lib.hid (hb3.grown HG2.out hb3.size (fun q hq => (HR.out.lt q hq).1))⟩, rfl, rfl, rfl⟩
          · rw [HNX.out]; exact Lib.hid HML.out.symm
          · rw [HNX.out]; exact Lib.hid ho
        case measure => simp [intOf]; omega
    · obtain rfl : j = N := by omega
      have hx := HD.out.ltx
      have hh3 := (HB.out.block xb hx).trans HH.out
      have c3r : wr.cell? ⟨xb, 3, none⟩ = some (.slice A j cu) := by simp [World.cell?, hh3]
      have f3r : wr.frozen? ⟨xb, 3, none⟩ = false := by simp [World.frozen?, hh3]
      have HTK : Hid (Q.take j = Q) := Lib.hid (List.take_of_length_le (by rw [HQL.out]; exact Nat.le_refl _))
      obtain ⟨A9, n9, c9, rfl⟩ := own_slice9 HR.out
      clear hh3
      go_wp2
      go_end0
      have hr := HR.out
      have hm := HM.out
      rw [HTK.out] at hr hm
      have hfin := HD.out.relist (M := erase s L) (R := Q.filter (notIn s)) hk (HD.out.ok.filter _) HB.out hr (by rw [hm, ← HQ.out, ← map_notIn, List.length_map]) (by rw [map_notIn, HQ.out]) (fun q hq => by
        have h1 := (HDAT.out q (List.mem_filter.1 hq).1).stp (Stp.below (k := k) HB.out HD.out.fr) hk
        obtain ⟨A3, c3, e, h3, h4, h5, h6⟩ := HDAT.out q (List.mem_filter.1 hq).1
        obtain ⟨A4, c4, e4, g3, g4, g5, g6⟩ := h1
        refine ⟨A4, c4, e4, g3, g4, g5, fun h0 a ha => ?_⟩
        rw [e] at e4
        injection e4 with e4 _ _
        obtain ⟨b, off, e7, hlt7, _⟩ := h4.2 h0
        rw [pl_other]
        · exact g6 h0 a ha
        · intro e8
          have h9 := (HR.out.lt _ e8).1
          rw [e4, ha] at e7
          injection e7 with e7
          rw [e7] at h9
          dsimp only at h9
          omega)
      exact ⟨rfl, _, hfin.1, hfin.2⟩
end
end Go.Proofs.YtndbjdnfibpicaaR
