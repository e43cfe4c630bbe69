/-
  Contract of spec.elementsOf: what stands behind the unit, cut at commas.
-/
import Derived.Test.YtokknicfnnkldaaDoorRRSpecOne
import Derived.Test.YtokknicfnnkldaaDoorRRTextGives
namespace Go.Proofs.YtokknicfnnkldaaDoorRR
open Go.ChangeShapes Go.WideShapes Go.ChangeAt Go.RowKit

theorem gives_cut {L : List (List UInt8)} {b : Bool} {w w' : World} {e : Ending} (h : Gives L b w e w') :
    ∃ A n c, e = .returned (.tuple #[.slice A n c, .bool b]) ∧ Hid (Vs w' w'.heap.size A n (strs L)) ∧ n ≤ c ∧ Below w.heap.size w w' := h
theorem givesRow_of {L : List (List UInt8)} {w w' : World} {A : Option Addr} {n c : Nat} (hv : Vs w' w'.heap.size A n (strs L)) (hc : n ≤ c) (hb : Below w.heap.size w w') : GivesRow L w (.returned (.slice A n c)) w' :=
  ⟨A, n, c, rfl, hv, hc, hb⟩
theorem elems_walk (s T A B : ByteArray) (is q bo : Bool) (L : List (List UInt8)) (w : World)
    (ct : ∀ W, Calls Tryd.prog 18 #[.string s] W fun e w' => e = .returned (.string T) ∧ Below W.heap.size W w')
    (cc : ∀ W, Calls Tryd.prog 17 #[.string T, .int .u8 61] W fun e w' => e = .returned (.tuple #[.string A, .string B, .bool is]) ∧ Below W.heap.size W w')
    (cf : ∀ W, Calls Tryd.prog 19 #[.string A, .string ⟨#[98, 121, 116, 101, 115]⟩] W fun e w' => e = .returned (.bool q) ∧ Below W.heap.size W w')
    (cl : ∀ W, Calls Tryd.prog 20 #[.string B] W (Gives L bo W)) :
    Calls Tryd.prog 9 #[.string s] w (GivesRow (if q then L else []) w) := by
  have HB := Below.refl w.heap.size w
  cases q
  all_goals
    go_enter Tryd.func9, Tryd.ntmps9
    go_wp2_with (first
      | (go_at_call 18; refine (ct _).mono ?_; rintro e w1 ⟨rfl, hb⟩; replace HB := below_next3 HB hb; clear hb)
      | (go_at_call 17; refine (cc _).mono ?_; rintro e w1 ⟨rfl, hb⟩; replace HB := below_next3 HB hb; clear hb)
      | (go_at_call 19; refine (cf _).mono ?_; rintro e w1 ⟨rfl, hb⟩; replace HB := below_next3 HB hb; clear hb)
      | (go_at_call 20; refine (cl _).mono ?_; intro e w4 hg; obtain ⟨A4, n4, c4, rfl, hv, hc, hb⟩ := gives_cut hg; clear hg; replace HB := below_next3 HB hb; clear hb))
    go_ret
    first
      | exact givesRow_of hv.out hc HB
      | exact givesRow_of (Vs.nil _ _ _) (Nat.le_refl _) HB
theorem elemsOf_any (s : ByteArray) (w : World) (hs : s.size ≤ 1000000) :
    Calls Tryd.prog 9 #[.string s] w (GivesRow (Sp.elementsOf s.data.toList) w) := by
  have ht : (Tx.trim s.data.toList).length ≤ s.size := by
    have h1 := Tx.left_len (Tx.right s.data.toList)
    have h2 := Tx.right_len s.data.toList
    rw [size_list] at h2
    unfold Tx.trim
    omega
  have hl := cut_len (Tx.trim s.data.toList) 61
  have hB : (Str (Tx.cut (Tx.trim s.data.toList) 61).2.1).size ≤ 1000000 := by rw [str_size]; omega
  have hA : (Str (Tx.cut (Tx.trim s.data.toList) 61).1).size ≤ 9223372036854775807 := by rw [str_size]; omega
  have cc := fun W => cut_any (Str (Tx.trim s.data.toList)) 61 W (by rw [str_size]; omega)
  have cf := fun W => fold_any (Str (Tx.cut (Tx.trim s.data.toList) 61).1) ⟨#[98, 121, 116, 101, 115]⟩ W hA (by decide +kernel)
  have cl := fun W => list_any (Str (Tx.cut (Tx.trim s.data.toList) 61).2.1) W hB
  rw [str_list] at cc cf cl
  have := elems_walk s _ _ _ _ _ _ _ w (fun W => trim_any s W (by omega)) cc cf cl
  have e : Sp.elementsOf s.data.toList = if decide ((Tx.cut (Tx.trim s.data.toList) 61).1.map Tx.low = (ByteArray.mk #[98, 121, 116, 101, 115]).data.toList.map Tx.low) then wants (Tx.cut (Tx.trim s.data.toList) 61).2.1 else [] := by
    unfold Sp.elementsOf wants
    have hu : (ByteArray.mk #[98, 121, 116, 101, 115]).data.toList.map Tx.low = Sp.unit := by decide +kernel
    rw [hu]
    simp only [decide_eq_true_eq]
  rw [e]
  exact this
end Go.Proofs.YtokknicfnnkldaaDoorRR
