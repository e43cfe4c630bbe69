/-
  Contract of span.Merge.
-/
import Derived.Test.YtlonpimnjjkfpaaSpanOrder
import Derived.IntWalk
import Derived.Deep.QuietTactic
import Derived.BigQuiet
import Derived.BigRegion
import Derived.Laws.OwnMore
namespace Go.Proofs.Ytlonpimnjjkfpaa
open Go.ChangeShapes Go.WideShapes Go.ChangeAt Go.RowKit

theorem Own2.base {w : World} {base b2 : Nat} {v : Value} {X : List (Int × Int)} (h : Own2 w base v X) (hb : b2 ≤ base) : Own2 w b2 v X := by
  have h0 : w.ownsRow base 23 2 v X.length (duos X) := h
  refine ⟨h0.1, ?_⟩
  rcases h0.2 with h1 | ⟨g, c, cur, h1, h2, h3⟩
  · exact .inl h1
  · exact .inr ⟨g, c, cur, h1, Nat.le_trans hb h2, h3⟩
theorem own_drewN {w : World} {base size n : Nat} {T : TypeId} {v : Value} {xs : List Value} (h : w.ownsRow base T size v n xs) (m : Nat) : (w.drewN m).ownsRow base T size v n xs := h
theorem Own2.drewN {w : World} {base : Nat} {v : Value} {X : List (Int × Int)} (h : Own2 w base v X) (m : Nat) : Own2 (w.drewN m) base v X := h
theorem Own2.drew {w : World} {base : Nat} {v : Value} {X : List (Int × Int)} (h : Own2 w base v X) : Own2 w.drew base v X := h
/-- the last one's end is another one -/
theorem Own2.set2 {w : World} {base g c : Nat} {q : List (Int × Int)} {x : Int × Int} (h : Own2 w base (.slice (some ⟨g, 0, none⟩) (q.length + 1) c) (q ++ [x])) (y : Int) :
    Own2 (w.setCell ⟨g, q.length * 2 + 1, none⟩ (.int .i64 y)) base (.slice (some ⟨g, 0, none⟩) (q.length + 1) c) (q ++ [(x.1, y)]) := by
  have h0 : w.ownsRow base 23 2 (.slice (some ⟨g, 0, none⟩) (q.length + 1) c) (q.length + 1) (duos (q ++ [x])) := by
    have h1 : w.ownsRow base 23 2 (.slice (some ⟨g, 0, none⟩) (q.length + 1) c) (q ++ [x]).length (duos (q ++ [x])) := h
    rwa [List.length_append] at h1
  have h2 := (h0.stored (q.length * 2 + 1) (.int .i64 y)).1
  have e : (duos (q ++ [x])).set (q.length * 2 + 1) (.int .i64 y) = duos (q ++ [(x.1, y)]) := by
    have := duos_set2 (q ++ [x]) q.length (by simp) y
    rw [this]
    congr 1
    simp
  rw [e] at h2
  show World.ownsRow _ _ _ _ _ (q ++ [(x.1, y)]).length _
  rw [List.length_append]
  exact h2
theorem new_cells3 (w : World) (o : Obj) (m : Nat) (t : TypeId) (cs : Array Value) : ∀ j u, cs.toList[j]? = some u → (((w.alloc o).drewN m).alloc (.cells cs t)).cell? ((⟨w.heap.size + 1, 0, none⟩ : Addr).add j) = some u := new_cells2 w o t cs

/-- the spans made one, as a row of the call's own -/
def MrgTo (g : Int) (L : List (Int × Int)) (w : World) (e : Ending) (w' : World) : Prop :=
  ∃ M v, e = .returned v ∧ Mg.Made g L M ∧ Own2 w' w.heap.size v M ∧ M.length ≤ L.length ∧ Below w.heap.size w w'
set_option maxHeartbeats 4000000 in
theorem merge_walk (A : Option Addr) (n c : Nat) (L : List (Int × Int)) (g : Int) (w : World) (hg : 0 ≤ g) (hn : L.length ≤ 1000000)
    (co : Calls Try.prog 25 #[.slice A n c] w (OrdTo L w)) :
    Calls Try.prog 23 #[.slice A n c, .int .i64 g] w (MrgTo g L w) := by
  obtain ⟨i0, hi, hz0, hz1, hz2⟩ := span_parts
  have HI0 := Lib.hid hi
  have HZ := Lib.hid hz0
  have HSZ := Lib.hid hz1
  have HBY := Lib.hid hz2
  have HN := Lib.hid hn
  clear hi hz0 hz1 hz2 hn
  go_enter Try.func23, Try.ntmps23
  go_wp2_with (go_at_call 25; refine co.mono ?_; rintro e w1 ⟨A1, c1, D, rfl, hp, hs, hv, hc, hb⟩; have HP := Lib.hid hp; have HS := Lib.hid hs; have HV := Lib.hid hv; have HB0 := Lib.hid hb; clear hp hs hv hc hb co)
  rw [show max g 0 = g by omega]
  have HR : Hid (∀ x ∈ D, Mg.right x = true) := Lib.hid fun x hx => (List.mem_filter.1 (HP.out.mem_iff.1 hx)).2
  have HDL : Hid (D.length ≤ L.length) := Lib.hid (by rw [HP.out.length_eq]; exact List.length_filter_le _ _)
  have hn : D.length ≤ 1000000 := Nat.le_trans HDL.out HN.out
  go_loopw [5, 14] (fun v i wr => ∃ k : Nat, k ≤ D.length ∧ i = .int .i64 k ∧ Hid (Own2 wr w1.heap.size v (Mg.fold g (D.take k))) ∧ Hid (Below w1.heap.size w1 wr)) (fun _ i _ => D.length - (intOf i).toNat)
  case atStart => exact ⟨0, by omega, rfl, Lib.hid (Own2.nil _ _), Lib.hid (Below.refl _ _)⟩
  case round =>
    obtain ⟨k, hk, rfl, HO, HB⟩ := hrel
    by_cases hlt : k < D.length
    · obtain ⟨b, off, rfl, hbB, hc⟩ := (HV.out.below HB.out).2 (by omega)
      obtain ⟨e0, e1⟩ := hc k hlt
      have HF := Lib.hid (Mg.fold_next (g := g) hlt)
      have hr := Mg.right_parts (HR.out _ (List.getElem_mem hlt))
      have hXR := (Mg.inv_take (g := g) HR.out HS.out k).1
      have hlen := Mg.fold_len g D k
      generalize D[k] = p at e0 e1 HF hr
      obtain ⟨pa, pb⟩ := p
      generalize Mg.fold g (D.take k) = X at HO HF hXR hlen
      dsimp only at e0 e1 hr
      obtain ⟨r1, r2, r3⟩ := hr
      have hsz := HB.out.size
      rcases Mg.snoc X with rfl | ⟨q, x, rfl⟩
      · obtain ⟨A5, c5, hv5, -, -⟩ := HO.out.sps
        rw [List.length_nil] at hv5
        subst hv5
        clear hc hbB hXR hlen
        have HF1 : Hid (Mg.fold g (List.take (k + 1) D) = [] ++ [(pa, pb)]) := Lib.hid HF.out
        obtain ⟨m7, x7, y7, -, -⟩ := Duo.new wr (.int .i64 pa) (.int .i64 pb) 23
        have HB7 := Lib.hid (HB.out.alloc hsz (.cells #[.int .i64 pa, .int .i64 pb] 23))
        have HO7 := Lib.hid (HO.out.alloc (.cells #[.int .i64 pa, .int .i64 pb] 23))
        have hs7 : w1.heap.size ≤ (wr.alloc (.cells #[.int .i64 pa, .int .i64 pb] 23)).heap.size := HB7.out.size
        go_wp2
        go_quiet (fail)
        go_wp2_with (at_builtin; refine wpList_append_one (o := ⟨some 38, _, _, _, _, _⟩) rfl (.tmp 35) (.tmp 37) 36 rfl w1.heap.size 23 i0 (.agg #[.int .i64 0, .int .i64 0]) 2 16 Try.underlying36 HI0.out HZ.out HSZ.out HBY.out rfl (by decide) _ 0 [] rfl ((HO7.out.drewN nq).alloc _) ⟨wr.heap.size + 1, 0, none⟩ 1 [.int .i64 pa, .int .i64 pb] rfl rfl (new_cells3 wr _ nq _ #[.int .i64 pa, .int .i64 pb]) (duos_one [(pa, pb)]) (by omega) (by omega) ((below_drewN HB7.out nq).alloc hs7 _).size ?_; intro v1 w2 HO2 HG2)
        go_roundw
        case rel =>
          have hb2 := (below_drewN HB7.out nq).alloc hs7 (.cells #[.int .i64 pa, .int .i64 pb] 23)
          exact ⟨k + 1, by omega, by go_num, by rw [HF1.out]; exact Lib.hid (Own2.more (X := []) HO2.out), Lib.hid (hb2.grown HG2.out hb2.size (fun q hq => (HO.out.lt q hq).1))⟩
        case measure => simp [intOf]; omega
      · have hv5 := HO.out.parts
        rcases hv5 with ⟨_, hv5⟩ | ⟨g5, c5, hv5, hg5, hl5, -, hx5⟩
        · exact absurd hv5 (by simp)
        rw [List.length_append, List.length_singleton] at hv5
        subst hv5
        obtain ⟨o1, o2, f1, f2⟩ := hx5 q.length (by simp)
        have hxr := Mg.right_parts (hXR x (by simp))
        have hF := HF.out
        rw [List.length_append, List.length_singleton] at hlen
        rw [show (q ++ [x])[q.length]'(by simp) = x by simp] at o1 o2
        obtain ⟨xa, xb⟩ := x
        dsimp only at o1 o2 hxr
        obtain ⟨s1, s2, s3⟩ := hxr
        generalize hm : q.length = m at *
        obtain ⟨m7, x7, y7, f7, g7⟩ := Duo.new wr (.int .i64 pa) (.int .i64 pb) 23
        have HB7 := Lib.hid (HB.out.alloc hsz (.cells #[.int .i64 pa, .int .i64 pb] 23))
        have HO7 := Lib.hid (HO.out.alloc (.cells #[.int .i64 pa, .int .i64 pb] 23))
        have hw1 : IntKind.i64.wrap (((m + 1 : Nat) : Int) - 1) = (m : Int) := by rw [IntWalk.i64_in _ (by omega)]; omega
        have hw2 : IntKind.i64.wrap (pa - xb) = pa - xb := IntWalk.i64_in _ (by omega)
        have h7 : (wr.alloc (.cells #[.int .i64 pa, .int .i64 pb] 23)).cell? ⟨g5, m * 2 + 1, none⟩ = some (.int .i64 xb) := ((below_one wr (.cells #[.int .i64 pa, .int .i64 pb] 23)).cell (p := ⟨g5, m * 2 + 1, none⟩) hl5).trans o2
        have hm0 : decide ((m : Int) < 0) = false := decide_eq_false (by omega)
        have hm1 : ¬ (m : Int) < 0 := by omega
        have hm2 : (0 : Int) ≤ m := by omega
        clear hc hbB hXR hx5
        have f7b : (wr.alloc (.cells #[.int .i64 pa, .int .i64 pb] 23)).frozen? ⟨g5, m * 2 + 1, none⟩ = false := ((below_one wr (.cells #[.int .i64 pa, .int .i64 pb] 23)).frozen (p := ⟨g5, m * 2 + 1, none⟩) hl5).trans f2
        have hs7 : w1.heap.size ≤ (wr.alloc (.cells #[.int .i64 pa, .int .i64 pb] 23)).heap.size := HB7.out.size
        have HO8 : Hid ((wr.alloc (.cells #[.int .i64 pa, .int .i64 pb] 23)).ownsRow w1.heap.size 23 2 (.slice (some ⟨g5, 0, none⟩) (m + 1) c5) (m + 1) (duos (q ++ [(xa, xb)]))) := Lib.hid (by
          have h1 : World.ownsRow _ _ _ _ _ (q ++ [(xa, xb)]).length _ := HO7.out
          rwa [List.length_append, hm] at h1)
        by_cases hf : g < pa - xb
        · rw [Mg.step_far hf] at hF
          have hf2 : decide (g < pa - xb) = true := decide_eq_true hf
          have HF1 := Lib.hid hF
          have HM : Hid ((q ++ [(xa, xb)]).length = m + 1) := Lib.hid (by rw [List.length_append, hm]; rfl)
          clear hF HF
          go_wp2
          go_quiet (fail)
          go_wp2_with (at_builtin; refine wpList_append_one (o := ⟨some 38, _, _, _, _, _⟩) rfl (.tmp 35) (.tmp 37) 36 rfl w1.heap.size 23 i0 (.agg #[.int .i64 0, .int .i64 0]) 2 16 Try.underlying36 HI0.out HZ.out HSZ.out HBY.out rfl (by decide) _ (m + 1) (duos (q ++ [(xa, xb)])) rfl (World.ownsRow.alloc (own_drewN HO8.out nq) _) ⟨wr.heap.size + 1, 0, none⟩ 1 [.int .i64 pa, .int .i64 pb] rfl rfl (new_cells3 wr _ nq _ #[.int .i64 pa, .int .i64 pb]) (duos_one [(pa, pb)]) (by omega) (by omega) ((below_drewN HB7.out nq).alloc hs7 _).size ?_; intro v1 w2 HO2 HG2)
          go_roundw
          case rel =>
            have hb2 := (below_drewN HB7.out nq).alloc hs7 (.cells #[.int .i64 pa, .int .i64 pb] 23)
            have ho2 := HO2.out
            rw [← HM.out] at ho2
            exact ⟨k + 1, by omega, by go_num, by rw [HF1.out]; exact Lib.hid (Own2.more ho2), Lib.hid (hb2.grown HG2.out hb2.size (fun q hq => (HO.out.lt q hq).1))⟩
          case measure => simp [intOf]; omega
        · rw [Mg.step_near hf] at hF
          have hf2 : decide (g < pa - xb) = false := decide_eq_false hf
          have HF1 := Lib.hid hF
          have HM := Lib.hid hm
          have HG := Lib.hid hg5
          clear hF HF
          go_wp2
          go_quiet (fail)
          go_wp2
          go_region
          go_wp2
          go_roundw
          case rel =>
            have ho : Own2 ((wr.alloc (.cells #[.int .i64 pa, .int .i64 pb] 23)).drewN (nq + 1)) w1.heap.size (.slice (some ⟨g5, 0, none⟩) (q.length + 1) c5) (q ++ [(xa, xb)]) := by rw [HM.out]; exact HO7.out.drewN (nq + 1)
            have ho2 := ho.set2 (max xb pb)
            rw [HM.out] at ho2
            exact ⟨k + 1, by omega, by go_num, by rw [HF1.out]; exact Lib.hid ho2, Lib.hid ((below_drewN HB7.out (nq + 1)).setCell HG.out _)⟩
          case measure => simp [intOf]; omega
    · obtain rfl : k = D.length := by omega
      have ho := HO.out
      rw [List.take_length] at ho
      have HO9 := Lib.hid ho
      clear ho
      have hfl := Mg.fold_len g D D.length
      rw [List.take_length] at hfl
      have HFL := Lib.hid hfl
      clear hfl
      go_wp2
      go_ret
      exact ⟨_, _, rfl, ⟨D, HP.out, HS.out, rfl⟩, Own2.base HO9.out HB0.out.size, Nat.le_trans HFL.out HDL.out, HB0.out.trans (HB.out.mono HB0.out.size)⟩
theorem merge_any (A : Option Addr) (n c B : Nat) (L : List (Int × Int)) (g : Int) (w : World) (h : Sps w B A n L) (hB : B ≤ w.heap.size) (hn : n ≤ 1000000) (hg : 0 ≤ g) :
    Calls Try.prog 23 #[.slice A n c, .int .i64 g] w (MrgTo g L w) :=
  merge_walk A n c L g w hg (by have := h.1; omega) (inOrder_any A n c B L w h hB hn)
end Go.Proofs.Ytlonpimnjjkfpaa
