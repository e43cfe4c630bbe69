/-
  Contracts of span.appendRight and span.inOrder.
-/
import Derived.Test.YtlonpimnjjkfpaaSpanSort
import Derived.Test.YtlonpimnjjkfpaaMergeMath
import Derived.Test.YtlonpimnjjkfpaaDuo
import Derived.LoopTactic
import Derived.Lib.Hide
namespace Go.Proofs.Ytlonpimnjjkfpaa
open Go.ChangeShapes Go.WideShapes Go.ChangeAt Go.RowKit

theorem filter_yes {L : List (Int × Int)} {k : Nat} (hk : k < L.length) (h : Mg.right L[k] = true) : (L.take (k + 1)).filter Mg.right = (L.take k).filter Mg.right ++ [L[k]] := by
  rw [List.take_succ_eq_append_getElem hk, List.filter_append]
  simp [h]
theorem filter_no {L : List (Int × Int)} {k : Nat} (hk : k < L.length) (h : Mg.right L[k] = false) : (L.take (k + 1)).filter Mg.right = (L.take k).filter Mg.right := by
  rw [List.take_succ_eq_append_getElem hk, List.filter_append]
  simp [h]
theorem filter_le (L : List (Int × Int)) (k : Nat) : ((L.take k).filter Mg.right).length ≤ k :=
  Nat.le_trans (List.length_filter_le _ _) (by simp; omega)
theorem Own2.more {w : World} {base : Nat} {v : Value} {X : List (Int × Int)} {a b : Int} (h : w.ownsRow base 23 2 v (X.length + 1) (duos X ++ [.int .i64 a, .int .i64 b])) : Own2 w base v (X ++ [(a, b)]) := by
  have e : duos X ++ [.int .i64 a, .int .i64 b] = duos (X ++ [(a, b)]) := by rw [← duos_append]; rfl
  rw [e] at h
  unfold Own2
  rw [List.length_append]
  exact h

set_option maxHeartbeats 2000000 in
theorem appendRight_walk (A : Option Addr) (n c B base : Nat) (v0 : Value) (L L0 : List (Int × Int)) (w : World) (h : Sps w B A n L) (hB : B ≤ base) (hbs : base ≤ w.heap.size) (hn : n ≤ 1000000) (h0 : Own2 w base v0 L0) (hl0 : L0.length ≤ 1000000)
    (cr : ∀ (a b : Int) W, Calls Try.prog 21 #[.agg #[.int .i64 a, .int .i64 b]] W fun e w' => e = .returned (.bool (Cr.spanB a b)) ∧ Below W.heap.size W w') :
    Calls Try.prog 26 #[v0, .slice A n c] w fun e w' => ∃ v, e = .returned v ∧ Own2 w' base v (L0 ++ L.filter Mg.right) ∧ Below base w w' := by
  have HL : Hid (L.length = n) := Lib.hid h.1
  have HC := Lib.hid h
  have HO0 := Lib.hid h0
  clear h h0
  obtain ⟨i0, hi, hz0, hz1, hz2⟩ := span_parts
  have HI0 := Lib.hid hi
  have HZ := Lib.hid hz0
  have HSZ := Lib.hid hz1
  have HBY := Lib.hid hz2
  clear hi hz0 hz1 hz2
  go_enter Try.func26, Try.ntmps26
  go_wp2
  go_loopw [0, 9] (fun v i wr => ∃ k : Nat, k ≤ n ∧ i = .int .i64 k ∧ Hid (Own2 wr base v (L0 ++ (L.take k).filter Mg.right)) ∧ Hid (Below base w wr)) (fun _ i _ => n - (intOf i).toNat)
  case atStart => exact ⟨0, by omega, rfl, Lib.hid (by simpa using HO0.out), Lib.hid (Below.refl _ _)⟩
  case round =>
    obtain ⟨k, hk, rfl, HO, HB⟩ := hrel
    by_cases hlt : k < n
    · have hkl : k < L.length := by rw [HL.out]; exact hlt
      obtain ⟨b, off, rfl, hbB, hc⟩ := (HC.out.below (HB.out.mono hB)).2 (by omega)
      obtain ⟨e0, e1⟩ := hc k hkl
      have HY := Lib.hid (filter_yes hkl)
      have HN := Lib.hid (filter_no hkl)
      have hle := filter_le L k
      generalize L[k] = p at e0 e1 HY HN
      obtain ⟨pa, pb⟩ := p
      have cr0 := cr pa pb
      dsimp only at e0 e1
      have hsz := HB.out.size
      have hbsz : base ≤ wr.heap.size := by omega
      clear cr hc hbB
      cases hp : Cr.spanB pa pb with
      | false =>
        have HN1 := Lib.hid (HN.out hp)
        rw [hp] at cr0
        go_wp2_with (go_at_call 21; refine (cr0 _).mono ?_; rintro e w1 ⟨rfl, hb⟩; have HB1 := Lib.hid ((HB.out.alloc hbsz (.cells #[.int .i64 pa, .int .i64 pb] 23)).trans (hb.mono (by simp; omega))); have HO1 := Lib.hid ((HO.out.alloc (.cells #[.int .i64 pa, .int .i64 pb] 23)).below hb); clear hb cr0)
        go_roundw
        case rel => exact ⟨k + 1, by omega, by go_num, by rw [HN1.out]; exact HO1, HB1⟩
        case measure => simp [intOf]; omega
      | true =>
        have HY1 := Lib.hid (HY.out hp)
        rw [hp] at cr0
        have hl1 : (L0 ++ (L.take k).filter Mg.right).length + 1 ≤ 9223372036854775807 := by rw [List.length_append]; omega
        have hl2 : ((L0 ++ (L.take k).filter Mg.right).length + 1) * 16 ≤ 140737488355328 := by rw [List.length_append]; omega
        go_wp2_with (first
          | (go_at_call 21; refine (cr0 _).mono ?_; rintro e w1 ⟨rfl, hb⟩; have HB1 := Lib.hid ((HB.out.alloc hbsz (.cells #[.int .i64 pa, .int .i64 pb] 23)).trans (hb.mono (by simp; omega))); have HO1 := Lib.hid ((HO.out.alloc (.cells #[.int .i64 pa, .int .i64 pb] 23)).below hb); obtain ⟨m6, x6, y6, -, -⟩ := (Duo.new wr (.int .i64 pa) (.int .i64 pb) 23).below hb; have hs1 : base ≤ w1.heap.size := Nat.le_trans hbs HB1.out.size; clear hb cr0)
          | (at_builtin; refine wpList_append_one (o := ⟨some 18, _, _, _, _, _⟩) rfl (.tmp 15) (.tmp 17) 36 rfl base 23 i0 (.agg #[.int .i64 0, .int .i64 0]) 2 16 Try.underlying36 HI0.out HZ.out HSZ.out HBY.out rfl (by decide) _ (L0 ++ (L.take k).filter Mg.right).length _ rfl (HO1.out.alloc _) ⟨w1.heap.size, 0, none⟩ 1 [.int .i64 pa, .int .i64 pb] rfl rfl (new_cells w1 _ #[.int .i64 pa, .int .i64 pb]) (duos_one [(pa, pb)]) hl1 hl2 (Nat.le_trans hbs (HB1.out.alloc hs1 _).size) ?_; intro v1 w2 HO2 HG2))
        go_roundw
        case rel =>
          have hb2 := HB1.out.alloc hs1 (.cells #[.int .i64 pa, .int .i64 pb] 23)
          exact ⟨k + 1, by omega, by go_num, by rw [HY1.out, ← List.append_assoc]; exact Lib.hid (Own2.more HO2.out), Lib.hid (hb2.grown HG2.out (Nat.le_trans hbs hb2.size) (fun q hq => (HO.out.lt q hq).1))⟩
        case measure => simp [intOf]; omega
    · obtain rfl : k = n := by omega
      have e : L.take k = L := List.take_of_length_le (by rw [HL.out]; exact Nat.le_refl _)
      have ho := HO.out
      rw [e] at ho
      have HO9 := Lib.hid ho
      clear ho
      go_wp2
      go_ret
      exact ⟨_, rfl, HO9.out, HB.out⟩
theorem appendRight_any (A : Option Addr) (n c B base : Nat) (v0 : Value) (L L0 : List (Int × Int)) (w : World) (h : Sps w B A n L) (hB : B ≤ base) (hbs : base ≤ w.heap.size) (hn : n ≤ 1000000) (h0 : Own2 w base v0 L0) (hl0 : L0.length ≤ 1000000) :
    Calls Try.prog 26 #[v0, .slice A n c] w fun e w' => ∃ v, e = .returned v ∧ Own2 w' base v (L0 ++ L.filter Mg.right) ∧ Below base w w' :=
  appendRight_walk A n c B base v0 L L0 w h hB hbs hn h0 hl0 (fun a b W => spanRight_any a b W)

/-- the right ones, by where they begin -/
def OrdTo (L : List (Int × Int)) (w : World) (e : Ending) (w' : World) : Prop :=
  ∃ A c D, e = .returned (.slice A D.length c) ∧ D.Perm (L.filter Mg.right) ∧ D.Pairwise (fun x y => x.1 ≤ y.1) ∧ Sps w' w'.heap.size A D.length D ∧ D.length ≤ c ∧ Below w.heap.size w w'
theorem inOrder_walk (A : Option Addr) (n c : Nat) (L : List (Int × Int)) (w : World)
    (ca : Calls Try.prog 26 #[.slice none 0 0, .slice A n c] w fun e w' => ∃ v, e = .returned v ∧ Own2 w' w.heap.size v (L.filter Mg.right) ∧ Below w.heap.size w w') (hn : (L.filter Mg.right).length ≤ 2000000) :
    Calls Try.prog 25 #[.slice A n c] w (OrdTo L w) := by
  have HN := Lib.hid hn
  clear hn
  go_enter Try.func25, Try.ntmps25
  go_wp2_with (first
    | (go_at_call 26; refine ca.mono ?_; rintro e w1 ⟨v, rfl, ho, hb⟩; have HO := Lib.hid ho; have HB := Lib.hid hb; clear ho hb ca)
    | (go_at_call 27; refine (sort_own v _ _ _ HO.out HN.out HB.out.size).mono ?_; rintro e w2 ⟨rfl, A2, c2, D, rfl, hp, hs, hv, hc, hb⟩))
  go_ret
  exact ⟨A2, c2, D, rfl, hp, hs, hv, hc, HB.out.trans hb⟩
theorem inOrder_any (A : Option Addr) (n c B : Nat) (L : List (Int × Int)) (w : World) (h : Sps w B A n L) (hB : B ≤ w.heap.size) (hn : n ≤ 1000000) :
    Calls Try.prog 25 #[.slice A n c] w (OrdTo L w) := by
  refine inOrder_walk A n c L w ?_ (Nat.le_trans (List.length_filter_le _ _) (by have := h.1; omega))
  have := appendRight_any A n c B w.heap.size (.slice none 0 0) L [] w h hB (Nat.le_refl _) hn (Own2.nil _ _) (Nat.zero_le _)
  rwa [List.nil_append] at this
end Go.Proofs.Ytlonpimnjjkfpaa
