/-
  The walk of the statement on the elements of any list.
-/
import Derived.Test.YtgldgmmljigmdaaTextAwake
import Derived.Test.YtgldgmmljigmdaaRefPieces
import Derived.Test.YtgldgmmljigmdaaRefList
namespace Go.Proofs.Ytgldgmmljigmdaa
open Go.ChangeShapes Go.WideShapes Go.ChangeAt Go.RowKit

theorem lists_long (s : ByteArray) (w : World) (h : 500 < s.size) :
    Calls Try.prog 4 #[.string s] w fun e w' => e = .returned (.bool true) ∧ Below w.heap.size w w' := by
  go_enter Try.func4, Try.ntmps4
  go_wp2_with (go_at_call 6; refine (textAwake_yes _).mono ?_; rintro e w' ⟨rfl, hb1⟩)
  go_ret
  exact ⟨rfl, hb1⟩

theorem fine_listed (l : List UInt8) : Tx.listed l = true ↔ Fine (Tx.parts l) (Tx.parts l).length (Tx.parts l).length := by
  rw [Tx.listed_iff]
  exact ⟨fun h i hi _ => h i hi, fun h i hi => h i hi hi⟩
/-- the elements, or none where it is no list -/
def wants (l : List UInt8) : List (List UInt8) := if Tx.listed l = true then Tx.elems l else []
theorem list_any (s : ByteArray) (w : World) (hs : s.size ≤ 1000000) :
    Calls Try.prog 18 #[.string s] w (Gives (wants s.data.toList) (Tx.listed s.data.toList) w) := by
  unfold wants
  cases h : Tx.listed s.data.toList with
  | true =>
    rw [if_pos rfl]
    exact list_yes s w hs h
  | false =>
    rw [if_neg (by simp)]
    exact list_no s w (by omega) h

set_option maxHeartbeats 4000000 in
theorem lists_short (s : ByteArray) (w : World) (h : s.size ≤ 500) :
    Calls Try.prog 4 #[.string s] w fun e w' => e = .returned (.bool true) ∧ Below w.heap.size w w' := by
  have cl := fun W => list_any s W (by omega)
  have cp := fun W => pieces_any s W (by omega)
  obtain ⟨b, hbe⟩ : ∃ b, b = Tx.listed s.data.toList := ⟨_, rfl⟩
  have HF : Hid (b = true ↔ Fine (Tx.parts s.data.toList) (Tx.parts s.data.toList).length (Tx.parts s.data.toList).length) := Lib.hid (by rw [hbe]; exact fine_listed _)
  have HW : Hid ((if b = true then Tx.pick (Tx.parts s.data.toList) else []) = wants s.data.toList) := Lib.hid (by rw [hbe]; rfl)
  rw [← hbe] at cl
  have HP : Hid (∀ p ∈ Tx.parts s.data.toList, p.length ≤ 1000000) := Lib.hid fun p hp => by
    have := parts_mem_len hp
    rw [size_list] at this
    omega
  have HPN : Hid ((Tx.parts s.data.toList).length ≤ 1000000) := Lib.hid (by
    have := parts_len s.data.toList
    rw [size_list] at this
    omega)
  have HWN : Hid ((wants s.data.toList).length ≤ 1000000) := Lib.hid (by
    rw [← HW.out]
    split
    · unfold Tx.pick
      refine Nat.le_trans (List.length_filter_le _ _) ?_
      rw [List.length_map]
      exact HPN.out
    · simp)
  clear hbe
  go_enter Try.func4, Try.ntmps4
  go_wp2_with (first
    | (go_at_call 6; refine (textAwake_yes _).mono ?_; rintro e w0 ⟨rfl, hb0⟩)
    | (go_at_call 18; refine (cl _).mono ?_; rintro e w1 ⟨A1, n1, c1, rfl, hv1, hc1, hb1⟩; replace hv1 := Lib.hid hv1)
    | (go_at_call 20; refine (cp _).mono ?_; rintro e w2 ⟨A2, n2, c2, rfl, hv2, hc2, hb2⟩; obtain rfl : n2 = (Tx.parts s.data.toList).length := by { have := hv2.1; rw [strs_length] at this; exact this.symm }; replace hv2 := Lib.hid hv2)
    | (go_at_call 19; refine (refList_any A2 _ c2 w2.heap.size (Tx.parts s.data.toList) b w2 hv2.out (Nat.le_refl _) HPN.out HP.out HF.out).mono ?_; rintro e w3 ⟨A3, n3, c3, rfl, hv3, hc3, hb3⟩; rw [HW.out] at hv3; have hn3 := hv3.1; rw [strs_length] at hn3; obtain rfl : n3 = n1 := by { have := hv1.out.1; rw [strs_length] at this; omega }; have hn1 : n3 ≤ 1000000 := by { have := HWN.out; omega }; replace hv3 := Lib.hid hv3; clear hn3; have hv4 := Lib.hid (((hv1.out.below hb2).below (hb3.mono hb2.size)).mono (B' := w3.heap.size) (Nat.le_trans hb2.size hb3.size)))
    | (go_at_call 21; refine (texts_same A1 A3 n3 c1 c3 w3.heap.size (wants s.data.toList) _ hv4.out hv3.out (by omega)).mono ?_; rintro e w4 ⟨rfl, m, rfl⟩))
  go_ret
  exact ⟨rfl, below_drewN (((hb0.trans (hb1.mono hb0.size)).trans (hb2.mono (Nat.le_trans hb0.size hb1.size))).trans (hb3.mono (Nat.le_trans hb0.size (Nat.le_trans hb1.size hb2.size)))) _⟩

theorem lists_walk (s : ByteArray) (w : World) (_ : s.size ≤ maxLen) :
    Calls Try.prog 4 #[.string s] w fun e w' => e = .returned (.bool true) ∧ Below w.heap.size w w' := by
  by_cases h : s.size ≤ 500
  · exact lists_short s w h
  · exact lists_long s w (by omega)
end Go.Proofs.Ytgldgmmljigmdaa
