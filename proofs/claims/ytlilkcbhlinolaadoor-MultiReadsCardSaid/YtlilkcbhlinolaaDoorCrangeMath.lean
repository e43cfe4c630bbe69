/-
  Plain mathematics: what is printed of bytes is read again, with noughts ahead or without.
-/
import Derived.Test.YtlilkcbhlinolaaDoorCrangeParseAny
import Derived.Test.YtlilkcbhlinolaaDoorPrintLen
namespace Go.Proofs.YtlilkcbhlinolaaDoor

theorem dig_of {c : UInt8} (h : Nm.digB c = true) : c ≠ 45 ∧ c ≠ 47 ∧ c ≠ 42 ∧ c ≠ 32 := by
  rw [Nm.digB_iff] at h
  refine ⟨?_, ?_, ?_, ?_⟩ <;> rintro rfl <;> revert h <;> decide
theorem not_in {l : List UInt8} (h : l.all Nm.digB = true) : (45 : UInt8) ∉ l ∧ (47 : UInt8) ∉ l := by
  rw [List.all_eq_true] at h
  exact ⟨fun e => (dig_of (h _ e)).1 rfl, fun e => (dig_of (h _ e)).2.1 rfl⟩
theorem cut_here {a b : List UInt8} {c : UInt8} (h : c ∉ a) : Tx.cut (a ++ c :: b) c = (a, b, true) := Tx.cut_found h
/-- a field that is so, taken apart -/
theorem Cr.parse_made {U A T : List UInt8} (hU : U.map Tx.low = Cr.bytes) (h32 : (32 : UInt8) ∉ U) (h47 : (47 : UInt8) ∉ A) : Cr.parse (U ++ 32 :: (A ++ 47 :: T)) = Cr.read A T := by
  unfold Cr.parse
  rw [cut_here h32]
  dsimp only
  rw [if_pos hU, cut_here h47]
theorem star_no {F L : List UInt8} : (F ++ 45 :: L == [42]) = false := by
  rw [beq_eq_false_iff_ne]
  intro e
  have : (45 : UInt8) ∈ ([42] : List UInt8) := by rw [← e]; simp
  revert this; decide
theorem dig_star {T : List UInt8} (h : T.all Nm.digB = true) : (T == [42]) = false := by
  rw [beq_eq_false_iff_ne]
  rintro rfl
  revert h; decide

/-- what bytes there are is told -/
theorem Cr.read_span {F L T : List UInt8} {a b n : Int} (hF : F.all Nm.digB = true) (pF : Nm.parse F = (a, 0)) (pL : Nm.parse L = (b - 1, 0))
    (hT : (T = [42] ∧ n = -1) ∨ (T.all Nm.digB = true ∧ Nm.parse T = (n, 0))) (hr : Cr.rightB true a b n = true) : Cr.read (F ++ 45 :: L) T = ((true, a, b, n), 0) := by
  have hc := cut_here (b := L) (not_in hF).1
  rcases hT with ⟨rfl, rfl⟩ | ⟨hT, pT⟩
  · have hcon : Cr.con (F ++ 45 :: L) [42] = (true, a, b, -1) := by
      unfold Cr.con
      rw [hc, star_no, pF, pL]
      simp
    unfold Cr.read
    rw [show Cr.bad 3 (F ++ 45 :: L) [42] = false by unfold Cr.bad; rw [hc, star_no, pF, pL]; rfl, show Cr.bad 9 (F ++ 45 :: L) [42] = false by unfold Cr.bad; rw [hc, star_no, pF, pL]; rfl, hcon,
      show Cr.ok (true, a, b, -1) = true from hr]
    rfl
  · have hcon : Cr.con (F ++ 45 :: L) T = (true, a, b, n) := by
      unfold Cr.con
      rw [hc, star_no, dig_star hT, pF, pL, pT]
      simp
    unfold Cr.read
    rw [show Cr.bad 3 (F ++ 45 :: L) T = false by unfold Cr.bad; rw [hc, star_no, dig_star hT, pF, pL, pT]; rfl, show Cr.bad 9 (F ++ 45 :: L) T = false by unfold Cr.bad; rw [hc, star_no, dig_star hT, pF, pL, pT]; rfl, hcon,
      show Cr.ok (true, a, b, n) = true from hr]
    rfl
/-- what bytes there are isn't told -/
theorem Cr.read_star {T : List UInt8} {n : Int} (hT : T.all Nm.digB = true) (pT : Nm.parse T = (n, 0)) (hr : Cr.rightB false 0 0 n = true) : Cr.read [42] T = ((false, 0, 0, n), 0) := by
  have hcon : Cr.con [42] T = (false, 0, 0, n) := by
    unfold Cr.con
    rw [dig_star hT, pT]
    rfl
  unfold Cr.read
  rw [show Cr.bad 3 [42] T = false by unfold Cr.bad; rw [dig_star hT, pT]; rfl, show Cr.bad 9 [42] T = false by unfold Cr.bad; rw [dig_star hT, pT]; rfl, hcon, show Cr.ok (false, 0, 0, n) = true from hr]
  rfl

/-- a number printed, noughts ahead of it -/
theorem dec_of {n : Int} (h0 : 0 ≤ n) (h1 : n ≤ 4611686018427387903) (k : Nat) : (List.replicate k 48 ++ Lib.itoa n).all Nm.digB = true ∧ Nm.parse (List.replicate k 48 ++ Lib.itoa n) = (n, 0) := by
  obtain ⟨u, rfl⟩ : ∃ u : Nat, n = u := ⟨n.toNat, by omega⟩
  rw [Lib.itoa_nonneg]
  refine ⟨?_, Nm.parse_noughts k (by unfold Nm.maxNum; omega)⟩
  rw [List.all_append, (Nm.dec_val u).1, Bool.and_true, List.all_eq_true]
  intro x hx
  obtain rfl := List.eq_of_mem_replicate hx
  decide
theorem dec_plain {n : Int} (h0 : 0 ≤ n) (h1 : n ≤ 4611686018427387903) : (Lib.itoa n).all Nm.digB = true ∧ Nm.parse (Lib.itoa n) = (n, 0) := by
  simpa using dec_of h0 h1 0

/-- THERE AND BACK -/
theorem Cr.back {k : Bool} {a b n : Int} (hr : Cr.rightB k a b n = true) : Cr.parse (Cr.printL k a b n) = ((k, a, b, n), 0) := by
  have e : Cr.printL k a b n = Cr.bytes ++ 32 :: ((if k then Lib.itoa a ++ 45 :: Lib.itoa (b - 1) else [42]) ++ 47 :: (if n != -1 then Lib.itoa n else [42])) := by
    unfold Cr.printL Cr.bytes
    rw [if_pos hr]
    cases k <;> simp
  rw [e]
  cases k with
  | true =>
    obtain ⟨h1, h2, h3, h4⟩ := Cr.right_known hr
    obtain ⟨dF, pF⟩ := dec_plain h1 (by omega)
    obtain ⟨dL, pL⟩ := dec_plain (n := b - 1) (by omega) (by omega)
    rw [if_pos rfl, Cr.parse_made (by decide) (by decide) (by
      intro e
      rcases List.mem_append.1 e with h | h
      · exact (not_in dF).2 h
      · rcases List.mem_cons.1 h with h | h
        · revert h; decide
        · exact (not_in dL).2 h)]
    refine Cr.read_span dF pF pL ?_ hr
    rcases h4 with rfl | ⟨h5, h6, _⟩
    · exact .inl ⟨rfl, rfl⟩
    · rw [if_pos (by simp; omega)]
      exact .inr (dec_plain h5 h6)
  | false =>
    obtain ⟨rfl, rfl, h1, h2⟩ := Cr.right_not hr
    rw [if_neg (by decide), if_pos (by simp; omega), Cr.parse_made (by decide) (by decide) (by decide)]
    obtain ⟨dT, pT⟩ := dec_plain h1 h2
    exact Cr.read_star dT pT hr
theorem Cr.parse_none : Cr.parse [] = (Cr.zero, 3) := by decide

theorem Cr.right_in {a b n : Int} (ha : 0 ≤ a) (hab : a ≤ b) (hbn : b < n) (hn : n ≤ 1099511627776) : Cr.rightB true a (b + 1) n = true := by
  unfold Cr.rightB Cr.rv Cr.spanB
  have : (n != -1) = true := by simp; omega
  rw [this, decide_eq_true (show 0 ≤ n by omega), decide_eq_true (show n ≤ 4611686018427387903 by omega), decide_eq_true ha, decide_eq_true (show a < b + 1 by omega), decide_eq_true (show b + 1 ≤ 4611686018427387903 by omega), decide_eq_true (show b + 1 ≤ n by omega)]
  rfl
theorem Cr.drop6 {a b n : Int} (ha : 0 ≤ a) (hab : a ≤ b) (hbn : b < n) (hn : n ≤ 1099511627776) : (Cr.printL true a (b + 1) n).drop 6 = Lib.itoa a ++ 45 :: Lib.itoa b ++ 47 :: Lib.itoa n := by
  unfold Cr.printL
  rw [if_pos (Cr.right_in ha hab hbn hn), show (n != -1) = true by simp; omega, show b + 1 - 1 = b by omega]
  simp
/-- letters of any size, and noughts ahead -/
theorem Cr.noughts {a b n : Int} (ha : 0 ≤ a) (hab : a ≤ b) (hbn : b < n) (hn : n ≤ 1099511627776) (k : Nat) :
    Cr.parse ([66, 121, 84, 101, 83, 32] ++ List.replicate k 48 ++ (Cr.printL true a (b + 1) n).drop 6) = ((true, a, b + 1, n), 0) := by
  have hr := Cr.right_in ha hab hbn hn
  obtain ⟨dF, pF⟩ := dec_of (n := a) (by omega) (by omega) k
  obtain ⟨dL, pL⟩ := dec_plain (n := b) (by omega) (by omega)
  obtain ⟨dT, pT⟩ := dec_plain (n := n) (by omega) (by omega)
  have e2 : [66, 121, 84, 101, 83, 32] ++ List.replicate k 48 ++ (Cr.printL true a (b + 1) n).drop 6 = [66, 121, 84, 101, 83] ++ 32 :: (((List.replicate k 48 ++ Lib.itoa a) ++ 45 :: Lib.itoa b) ++ 47 :: Lib.itoa n) := by
    rw [Cr.drop6 ha hab hbn hn]; simp
  rw [e2, Cr.parse_made (by decide) (by decide) (by
      intro e
      rcases List.mem_append.1 e with h | h
      · exact (not_in dF).2 h
      · rcases List.mem_cons.1 h with h | h
        · revert h; decide
        · exact (not_in dL).2 h)]
  exact Cr.read_span dF pF (by rw [show b + 1 - 1 = b by omega]; exact pL) (.inr ⟨dT, pT⟩) hr
theorem Cr.noughts_len {a b n : Int} (ha : 0 ≤ a) (hab : a ≤ b) (hbn : b < n) (hn : n ≤ 1099511627776) : 7 ≤ (Cr.printL true a (b + 1) n).length := by
  have h := congrArg List.length (Cr.drop6 ha hab hbn hn)
  rw [List.length_drop] at h
  simp only [List.length_append, List.length_cons] at h
  omega
end Go.Proofs.YtlilkcbhlinolaaDoor
