/-
  The document's own Specs for every text; spec.Asked; the statement's own look whether two rows of specs are alike, where they are.
-/
import Derived.Test.YtokknicfnnkldaaDoorRRRefSpecs
namespace Go.Proofs.YtokknicfnnkldaaDoorRR
open Go.ChangeShapes Go.WideShapes Go.ChangeAt Go.RowKit

theorem cut_no {l : List UInt8} {c : UInt8} (h : (Tx.cut l c).2.2 = false) : (Tx.cut l c).2.1 = [] := by
  rcases Tx.cut_cases l c with ⟨a, b, e, hn⟩ | hn
  · rw [e, Tx.cut_found hn] at h
    exact absurd h (by simp)
  · rw [Tx.cut_none hn]
theorem meets_listed (l : List UInt8) : Meets (Tx.listed l) (Tx.parts l) := fine_listed l
theorem refSpecs_any (s : ByteArray) (w : World) (hs : s.size ≤ 999998) :
    Calls Tryd.prog 6 #[.string s] w (GivesSpecs (Sp.specs s.data.toList) w) := by
  have ht : (Tx.trim s.data.toList).length ≤ s.size := by
    have h1 := Tx.left_len (Tx.right s.data.toList)
    have h2 := Tx.right_len s.data.toList
    rw [size_list] at h2
    unfold Tx.trim
    omega
  have hl := cut_len (Tx.trim s.data.toList) 61
  have hB : (Str (Tx.cut (Tx.trim s.data.toList) 61).2.1).size ≤ 999998 := by rw [str_size]; omega
  have hA : (Str (Tx.cut (Tx.trim s.data.toList) 61).1).size ≤ 140737488355328 := by rw [str_size]; omega
  have ct := fun W => refTrim_both s W (by omega)
  have cc := fun W => refCut_any (Str (Tx.trim s.data.toList)) 61 W (by rw [str_size]; omega)
  unfold CutTo at cc
  have cp := fun W => pieces_any (Str (Tx.cut (Tx.trim s.data.toList) 61).2.1) W (by omega)
  have cw := fun W => refLower_any (Str (Tx.cut (Tx.trim s.data.toList) 61).1) W hA
  rw [str_list] at cc cp cw
  have hP : ∀ p ∈ Tx.parts (Tx.cut (Tx.trim s.data.toList) 61).2.1, p.length ≤ 1000000 := fun p hp => by
    have := parts_mem_len hp
    omega
  have hN : (Tx.parts (Tx.cut (Tx.trim s.data.toList) 61).2.1).length ≤ 1000000 := by
    have := parts_len (Tx.cut (Tx.trim s.data.toList) 61).2.1
    omega
  have hne : ∀ q : Bool, (((Str (List.map Tx.low (Tx.cut (Tx.trim s.data.toList) 61).1)).toList == ([98, 121, 116, 101, 115] : List UInt8)) = q) → (((Str (List.map Tx.low (Tx.cut (Tx.trim s.data.toList) 61).1)).toList != ([98, 121, 116, 101, 115] : List UInt8)) = !q) := fun q h => by
    unfold bne; rw [h]
  have heq : ((Str (List.map Tx.low (Tx.cut (Tx.trim s.data.toList) 61).1)).toList == ([98, 121, 116, 101, 115] : List UInt8)) = decide (List.map Tx.low (Tx.cut (Tx.trim s.data.toList) 61).1 = Sp.unit) := by
    rw [Lib.toList_data, str_list, Bool.eq_iff_iff, beq_iff_eq, decide_eq_true_iff]
    rfl
  by_cases h0 : Sp.elementsOf s.data.toList = []
  · have hsp : Sp.specs s.data.toList = ([], 3) := by unfold Sp.specs; rw [if_pos h0]
    rw [hsp]
    refine refSpecs_bad s _ _ _ _ _ (!decide (List.map Tx.low (Tx.cut (Tx.trim s.data.toList) 61).1 = Sp.unit)) (Tx.listed (Tx.cut (Tx.trim s.data.toList) 61).2.1) _ _ (Picked (Tx.listed (Tx.cut (Tx.trim s.data.toList) 61).2.1) (Tx.parts (Tx.cut (Tx.trim s.data.toList) 61).2.1)) w ct cc cp cw (meets_listed _) hP hN rfl ?_ ?_ rfl ?_
    · rw [hne _ heq]
    · rw [heq, Bool.not_not]
    · unfold Sp.elementsOf at h0
      by_cases hu : List.map Tx.low (Tx.cut (Tx.trim s.data.toList) 61).1 = Sp.unit
      · rw [if_pos hu] at h0
        by_cases hli : Tx.listed (Tx.cut (Tx.trim s.data.toList) 61).2.1 = true
        · rw [if_pos hli] at h0
          have : Picked (Tx.listed (Tx.cut (Tx.trim s.data.toList) 61).2.1) (Tx.parts (Tx.cut (Tx.trim s.data.toList) 61).2.1) = [] := by
            unfold Picked
            rw [if_pos hli]
            exact h0
          rw [this]
          simp
        · have : Tx.listed (Tx.cut (Tx.trim s.data.toList) 61).2.1 = false := by simpa using hli
          rw [this]
          simp
      · rw [decide_eq_false hu]
        simp
  · have hsp : Sp.specs s.data.toList = Sp.many (Sp.elementsOf s.data.toList) := by unfold Sp.specs; rw [if_neg h0]
    obtain ⟨h1, h2⟩ := elems_len s.data.toList
    rw [size_list] at h1 h2
    rw [hsp]
    have hu : List.map Tx.low (Tx.cut (Tx.trim s.data.toList) 61).1 = Sp.unit := by
      refine Classical.byContradiction fun hu => h0 ?_
      unfold Sp.elementsOf
      rw [if_neg hu]
    have hli : Tx.listed (Tx.cut (Tx.trim s.data.toList) 61).2.1 = true := by
      refine Classical.byContradiction fun hli => h0 ?_
      unfold Sp.elementsOf
      rw [if_pos hu, if_neg hli]
    have he : Sp.elementsOf s.data.toList = Tx.elems (Tx.cut (Tx.trim s.data.toList) 61).2.1 := by
      unfold Sp.elementsOf
      rw [if_pos hu, if_pos hli]
    have hi : (Tx.cut (Tx.trim s.data.toList) 61).2.2 = true := by
      cases hh : (Tx.cut (Tx.trim s.data.toList) 61).2.2 with
      | true => rfl
      | false =>
        refine absurd ?_ h0
        rw [he, cut_no hh]
        decide
    rw [hi] at cc
    have hm := meets_listed (Tx.cut (Tx.trim s.data.toList) 61).2.1
    rw [hli] at hm
    rw [decide_eq_true hu] at heq
    exact refSpecs_many s _ _ _ _ _ _ w ct cc cp cw hm hP hN (by rw [he]; rfl) (fun p hp => by have := h2 p hp; unfold maxLen; omega) (by omega) (hne _ heq) heq (List.length_pos_iff.2 h0)

/-- a row of specs -/
def GivesAsked (L : List (Int × Int × Int)) (w : World) (e : Ending) (w' : World) : Prop :=
  ∃ A n c, e = .returned (.slice A n c) ∧ Hid (Ss w' w'.heap.size A n L) ∧ n ≤ c ∧ Below w.heap.size w w'
theorem givesSpecs_cut {p : List (Int × Int × Int) × Int} {w w' : World} {e : Ending} (h : GivesSpecs p w e w') :
    ∃ A n c, e = .returned (.tuple #[.slice A n c, .int .i64 p.2]) ∧ Hid (Ss w' w'.heap.size A n p.1) ∧ n ≤ c ∧ Below w.heap.size w w' := h
theorem asked_any (s : ByteArray) (w : World) (hs : s.size ≤ 1000000) :
    Calls Tryd.prog 8 #[.string s] w (GivesAsked (Sp.specs s.data.toList).1 w) := by
  have co := fun W => specParse_any s W hs
  generalize Sp.specs s.data.toList = p at *
  go_enter Tryd.func8, Tryd.ntmps8
  go_wp2_with (go_at_call 5; refine (co _).mono ?_; intro e w1 hg; obtain ⟨A, n, c, rfl, hv, hc, hb⟩ := givesSpecs_cut hg; clear hg)
  go_ret
  exact ⟨A, n, c, rfl, hv, hc, hb⟩

def NoMoreS (w : World) (v : Value) (e : Ending) (w' : World) : Prop := e = .returned v ∧ ∃ m, w' = w.drewN m
set_option maxHeartbeats 1000000 in
theorem same_yes (A1 A2 : Option Addr) (n c1 c2 B : Nat) (L : List (Int × Int × Int)) (w : World) (h1 : Ss w B A1 n L) (h2 : Ss w B A2 n L) (hn : n ≤ 1000000) :
    Calls Tryd.prog 7 #[.slice A1 n c1, .slice A2 n c2] w (NoMoreS w (.bool true)) := by
  have HL : Hid (L.length = n) := Lib.hid h1.len
  have C1 := Lib.hid h1.2
  have C2 := Lib.hid h2.2
  clear h1 h2
  have hne : ((n : Int) != (n : Int)) = false := by simp
  go_enter Tryd.func7, Tryd.ntmps7
  go_wp2
  go_loopw [13] (fun i wr => ∃ k m : Nat, k ≤ n ∧ i = .int .i64 k ∧ wr = w.drewN m) (fun i _ => n - (intOf i).toNat)
  case atStart => exact ⟨0, 0, by omega, rfl, rfl⟩
  case round =>
    obtain ⟨k, m, hk, rfl, rfl⟩ := hrel
    clear hne
    by_cases hlt : k < n
    · obtain ⟨b1, o1, rfl, hB1, hc1⟩ := C1.out (by omega)
      obtain ⟨b2, o2, rfl, hB2, hc2⟩ := C2.out (by omega)
      have hkl : k < L.length := by rw [HL.out]; exact hlt
      obtain ⟨q1, q2, q3⟩ := flat_get L k hkl
      have hfl := flat_length L
      have p1 := (hc1 (k * 3) (by omega)).trans ((List.getElem?_eq_getElem (by omega)).symm.trans q1)
      have p2 := (congrArg (fun j => w.cell? ⟨b1, j, none⟩) (Nat.add_assoc o1 (k * 3) 1)).trans ((hc1 (k * 3 + 1) (by omega)).trans ((List.getElem?_eq_getElem (by omega)).symm.trans q2))
      have p3 := (congrArg (fun j => w.cell? ⟨b1, j, none⟩) (Nat.add_assoc o1 (k * 3) 2)).trans ((hc1 (k * 3 + 2) (by omega)).trans ((List.getElem?_eq_getElem (by omega)).symm.trans q3))
      have r1 := (hc2 (k * 3) (by omega)).trans ((List.getElem?_eq_getElem (by omega)).symm.trans q1)
      have r2 := (congrArg (fun j => w.cell? ⟨b2, j, none⟩) (Nat.add_assoc o2 (k * 3) 1)).trans ((hc2 (k * 3 + 1) (by omega)).trans ((List.getElem?_eq_getElem (by omega)).symm.trans q2))
      have r3 := (congrArg (fun j => w.cell? ⟨b2, j, none⟩) (Nat.add_assoc o2 (k * 3) 2)).trans ((hc2 (k * 3 + 2) (by omega)).trans ((List.getElem?_eq_getElem (by omega)).symm.trans q3))
      obtain ⟨x, hx⟩ : ∃ x, x = L[k].1 := ⟨_, rfl⟩
      obtain ⟨y, hy⟩ : ∃ x, x = L[k].2.1 := ⟨_, rfl⟩
      obtain ⟨z, hz⟩ : ∃ x, x = L[k].2.2 := ⟨_, rfl⟩
      rw [← hx] at p1 r1
      rw [← hy] at p2 r2
      rw [← hz] at p3 r3
      clear q1 q2 q3 hc1 hc2 C1 C2 HL hx hy hz hkl hfl
      go_wp2
      go_quiet (fail)
      go_wp2
      go_roundw
      case rel => exact ⟨k + 1, _, by omega, by go_num, rfl⟩
      case measure => simp [intOf]; omega
    · go_wp2
      go_ret
      exact ⟨rfl, m, rfl⟩
end Go.Proofs.YtokknicfnnkldaaDoorRR
