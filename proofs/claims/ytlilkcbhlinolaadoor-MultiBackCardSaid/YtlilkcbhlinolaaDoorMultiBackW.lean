/-
  The walk of the statement MultiBack.
-/
import Derived.Test.YtlilkcbhlinolaaDoorMultiReadC
import Derived.Test.YtlilkcbhlinolaaDoorMultiAwake
import Derived.Test.YtlilkcbhlinolaaDoorRefAlike
namespace Go.Proofs.YtlilkcbhlinolaaDoor
open Go.ChangeShapes Go.WideShapes Go.ChangeAt Go.RowKit

theorem backOut_walk (A : Option Addr) (n c : Nat) (total : Int) (U : ByteArray) (f s : Bool) (w : World) (hs : decide ((100 : Int) < (U.size : Int)) = !s) (h : (f && s) = false)
    (ca : ∀ W, Below w.heap.size w W → Calls Tryd.prog 6 #[] W fun e w' => e = .returned (.bool true) ∧ Below W.heap.size W w')
    (cf : ∀ W, Below w.heap.size w W → Calls Tryd.prog 7 #[.slice A n c] W fun e w' => e = .returned (.bool f) ∧ Below W.heap.size W w') :
    Calls Tryd.prog 4 #[.slice A n c, .int .i64 total, .string U] w fun e w' => e = .returned (.bool true) ∧ Below w.heap.size w w' := by
  have HB := Below.refl w.heap.size w
  cases f
  case' true =>
    cases s
    case' true => cases h
  all_goals
    go_enter Tryd.func4, Tryd.ntmps4
    go_wp2_with (first
      | (go_at_call 6; refine (ca _ HB).mono ?_; rintro e w1 ⟨rfl, hb⟩; replace HB := HB.trans (hb.mono HB.size); clear hb)
      | (go_at_call 7; refine (cf _ HB).mono ?_; rintro e w2 ⟨rfl, hb⟩; replace HB := HB.trans (hb.mono HB.size); clear hb))
    go_ret
    exact ⟨rfl, HB⟩
section
variable (A : Option Addr) (n c : Nat) (L : List Mu.Part) (total : Int) (U : ByteArray) (M : List UInt8) (w : World) (hs : decide ((100 : Int) < (U.size : Int)) = false)
    (ca : ∀ W, Below w.heap.size w W → Calls Tryd.prog 6 #[] W fun e w' => e = .returned (.bool true) ∧ Below W.heap.size W w')
    (cf : ∀ W, Below w.heap.size w W → Calls Tryd.prog 7 #[.slice A n c] W fun e w' => e = .returned (.bool true) ∧ Below W.heap.size W w')
include hs ca cf
set_option maxHeartbeats 4000000 in
set_option maxRecDepth 100000 in
theorem back_yes (h : Ps w w.heap.size A n L) (hn : n ≤ 9223372036854775807) (hl : ∀ p ∈ L, p.2.2.length ≤ 140737488355328)
    (cp : ∀ W, Below w.heap.size w W → Calls Tryd.prog 8 #[.slice A n c, .int .i64 total, .string U] W (PutTo true M W))
    (cr : ∀ W A3 c3, Below w.heap.size w W → Bs W W.heap.size A3 M.length M → M.length ≤ c3 → Calls Tryd.prog 14 #[.slice A3 M.length c3, .string U] W (ReadYes L total W)) :
    Calls Tryd.prog 4 #[.slice A n c, .int .i64 total, .string U] w fun e w' => e = .returned (.bool true) ∧ Below w.heap.size w w' := by
  obtain rfl : L.length = n := h.1
  have HB := Below.refl w.heap.size w
  have HC := Lib.hid h
  have HM := Lib.hid hl
  clear h hl
  go_enter Tryd.func4, Tryd.ntmps4
  go_wp2_with (first
    | (go_at_call 6; refine (ca _ HB).mono ?_; rintro e w1 ⟨rfl, hb⟩; replace HB := HB.trans (hb.mono HB.size); clear hb)
    | (go_at_call 7; refine (cf _ HB).mono ?_; rintro e w2 ⟨rfl, hb⟩; replace HB := HB.trans (hb.mono HB.size); clear hb)
    | (go_at_call 8; refine (cp _ HB).mono ?_; rintro e w3 ⟨hb, ⟨_, A3, c3, rfl, hs3, hc3⟩ | ⟨hx, _⟩⟩; (first | cases hx | skip); have HS3 := Lib.hid hs3; replace HB := HB.trans (hb.mono HB.size); clear hb hs3)
    | (go_at_call 14; refine (cr _ _ _ HB HS3.out hc3).mono ?_; rintro e w4 ⟨A4, c4, rfl, hps, hc4, hb⟩; have HPS := Lib.hid hps; replace HB := HB.trans (hb.mono HB.size); clear hb hps)
    | (go_at_call 15; (with_reducible refine (refParts_same A4 A L.length c4 c _ L _ HPS.out ((HC.out.below HB).mono HB.size) hn HM.out).mono ?_); rintro e w5 ⟨rfl, q, hq⟩; replace HB := hq ▸ below_drewN HB q; clear hq))
  go_ret
  exact ⟨rfl, HB⟩
omit hs in
theorem back_no (hs : decide ((100 : Int) < (U.size : Int)) = false)
    (cp : ∀ W, Below w.heap.size w W → Calls Tryd.prog 8 #[.slice A n c, .int .i64 total, .string U] W (PutTo false [] W)) :
    Calls Tryd.prog 4 #[.slice A n c, .int .i64 total, .string U] w fun e w' => e = .returned (.bool true) ∧ Below w.heap.size w w' := by
  have HB := Below.refl w.heap.size w
  go_enter Tryd.func4, Tryd.ntmps4
  go_wp2_with (first
    | (go_at_call 6; refine (ca _ HB).mono ?_; rintro e w1 ⟨rfl, hb⟩; replace HB := HB.trans (hb.mono HB.size); clear hb)
    | (go_at_call 7; refine (cf _ HB).mono ?_; rintro e w2 ⟨rfl, hb⟩; replace HB := HB.trans (hb.mono HB.size); clear hb)
    | (go_at_call 8; refine (cp _ HB).mono ?_; rintro e w3 ⟨hb, ⟨hx, _⟩ | ⟨_, rfl⟩⟩; (first | cases hx | skip); replace HB := HB.trans (hb.mono HB.size); clear hb))
  go_ret
  exact ⟨rfl, HB⟩
end
theorem few_bounds {L : List Mu.Part} (h : Mu.few L = true) : Mu.bulk L ≤ 2000 ∧ L.length ≤ 20 := by
  unfold Mu.few at h
  rw [Bool.and_eq_true, decide_eq_true_eq, decide_eq_true_eq] at h
  omega
theorem put_len_some {L : List Mu.Part} (h : Mu.few L = true) (total : Int) {D : List UInt8} (hD : D.length ≤ 100) : (Mu.put L total D).length ≤ 7000 := by
  obtain ⟨h1, h2⟩ := few_bounds h
  have h3 := Mu.put_len (n := 100) L D total hD
  have : L.length * (100 + 110) ≤ 20 * (100 + 110) := Nat.mul_le_mul_right _ h2
  unfold Mu.put Mu.close
  simp only [List.length_append, List.length_cons, List.length_nil]
  omega
theorem multiBack_walk (A : Option Addr) (n c : Nat) (L : List Mu.Part) (total : Int) (U : ByteArray) (w : World) (h : Ps w w.heap.size A n L) (_ : n ≤ c) (hcm : c ≤ maxLen) (hl : ∀ p ∈ L, p.2.2.length ≤ 140737488355328) (_ : -9223372036854775808 ≤ total) (_ : total ≤ 9223372036854775807) (_ : U.size ≤ maxLen)
    (ht : Lib.TabIs Tryd.prog w "internal/strconv.uint64pow10" .u64 Lib.pow10Tab) (h1 : 0 < w.heap.size) (h2 : w.cell? ⟨0, 0, none⟩ = some (.iface 97 (.agg #[.pointer (some ⟨HG, 46, none⟩)])))
    (h3 : ∃ m, w.cell? ⟨1, 0, none⟩ = some (.int .i64 m)) :
    Calls Tryd.prog 4 #[.slice A n c, .int .i64 total, .string U] w fun e w' => e = .returned (.bool true) ∧ Below w.heap.size w w' := by
  have hE := env_of ht h1 h2 h3
  have hm : maxLen ≤ 9223372036854775807 := by unfold maxLen; omega
  have hn : n ≤ 9223372036854775807 := by omega
  have ca := fun W (hb : Below w.heap.size w W) => awake8_yes W (hE.on hb)
  have cf := fun W (hb : Below w.heap.size w W) => few_any A n c w.heap.size L W (h.below hb) hb.size hn hl
  by_cases hg : (Mu.few L && decide (U.size ≤ 100)) = true
  · rw [Bool.and_eq_true, decide_eq_true_eq] at hg
    obtain ⟨hfw, h100⟩ := hg
    rw [hfw] at cf
    have hbk := (few_bounds hfw).1
    have cp := fun W (hb : Below w.heap.size w W) => put_any A n c w.heap.size L total U W (h.below hb) hb.size hn (by omega) (by omega) (hE.on hb)
    have hs : decide ((100 : Int) < (U.size : Int)) = false := decide_eq_false (by omega)
    have hpl := put_len_some hfw total (D := U.data.toList) (by rw [size_list]; exact h100)
    cases hok : Mu.fine L total U.data.toList with
    | true =>
      simp only [hok, if_true] at cp
      have hok2 := hok
      unfold Mu.fine at hok2
      rw [Bool.and_eq_true] at hok2
      exact back_yes A n c L total U _ w hs ca cf h hn hl cp (fun W A3 c3 hb hbs hc3 => read_is A3 _ c3 W.heap.size _ U W hbs (Nat.le_refl _) hc3 (by omega) (hE.on hb) hok2.2 ⟨hok2.1, rfl⟩)
    | false =>
      simp only [hok, Bool.false_eq_true, if_false] at cp
      exact back_no A n c total U w ca cf hs cp
  · refine backOut_walk A n c total U (Mu.few L) (decide (U.size ≤ 100)) w ?_ (by simpa using hg) ca cf
    by_cases h100 : U.size ≤ 100
    · rw [decide_eq_true h100, decide_eq_false (by omega)]; rfl
    · rw [decide_eq_false h100, decide_eq_true (by omega)]; rfl
end Go.Proofs.YtlilkcbhlinolaaDoor
