/-
  The walk of the statement MultiPuts.
-/
import Derived.Test.YtlilkcbhlinolaaDoorMultiAwake
import Derived.Test.YtlilkcbhlinolaaDoorRefAlike
namespace Go.Proofs.YtlilkcbhlinolaaDoor
open Go.ChangeShapes Go.WideShapes Go.ChangeAt Go.RowKit

theorem out_walk (A : Option Addr) (n c : Nat) (total : Int) (U : ByteArray) (f s : Bool) (w : World) (hs : decide ((100 : Int) < (U.size : Int)) = !s) (h : (f && s) = false)
    (ca : ∀ W, Below w.heap.size w W → Calls Tryd.prog 6 #[] W fun e w' => e = .returned (.bool true) ∧ Below W.heap.size W w')
    (cf : ∀ W, Below w.heap.size w W → Calls Tryd.prog 7 #[.slice A n c] W fun e w' => e = .returned (.bool f) ∧ Below W.heap.size W w') :
    Calls Tryd.prog 3 #[.slice A n c, .int .i64 total, .string U] w fun e w' => e = .returned (.bool true) ∧ Below w.heap.size w w' := by
  have HB := Below.refl w.heap.size w
  cases f
  case' true =>
    cases s
    case' true => cases h
  all_goals
    go_enter Tryd.func3, Tryd.ntmps3
    go_wp2_with (first
      | (go_at_call 6; refine (ca _ HB).mono ?_; rintro e w1 ⟨rfl, hb⟩; replace HB := HB.trans (hb.mono HB.size); clear hb)
      | (go_at_call 7; refine (cf _ HB).mono ?_; rintro e w2 ⟨rfl, hb⟩; replace HB := HB.trans (hb.mono HB.size); clear hb))
    go_ret
    exact ⟨rfl, HB⟩
section
variable (A : Option Addr) (n c : Nat) (total : Int) (U : ByteArray) (M : List UInt8) (r : Bool) (w : World) (hs : decide ((100 : Int) < (U.size : Int)) = false) (hM : M.length ≤ 9223372036854775807)
    (ca : ∀ W, Below w.heap.size w W → Calls Tryd.prog 6 #[] W fun e w' => e = .returned (.bool true) ∧ Below W.heap.size W w')
    (cf : ∀ W, Below w.heap.size w W → Calls Tryd.prog 7 #[.slice A n c] W fun e w' => e = .returned (.bool true) ∧ Below W.heap.size W w')
    (cr : ∀ W, Below w.heap.size w W → Calls Tryd.prog 10 #[.slice A n c, .int .i64 total] W fun e w' => e = .returned (.bool r) ∧ Below W.heap.size W w')
    (cq : ∀ W, Below w.heap.size w W → Calls Tryd.prog 11 #[.slice A n c, .int .i64 total] W fun e w' => e = .returned (.bool r) ∧ Below W.heap.size W w')
include hs hM ca cf cr cq
set_option maxHeartbeats 4000000 in
theorem puts_yes
    (cp : ∀ W, Below w.heap.size w W → Calls Tryd.prog 8 #[.slice A n c, .int .i64 total, .string U] W (PutTo true M W))
    (cm : ∀ W, Below w.heap.size w W → Calls Tryd.prog 9 #[.slice A n c, .int .i64 total, .string U] W (MulTo true M W))
    (cz : ∀ W, Below w.heap.size w W → Calls Tryd.prog 13 #[.slice A n c, .int .i64 total, .string U] W fun e w' => e = .returned (.int .i64 (M.length : Nat)) ∧ Below W.heap.size W w') :
    Calls Tryd.prog 3 #[.slice A n c, .int .i64 total, .string U] w fun e w' => e = .returned (.bool true) ∧ Below w.heap.size w w' := by
  have HB := Below.refl w.heap.size w
  have he : ((M.length : Int) == (M.length : Int)) = true := by simp
  cases r
  all_goals
    go_enter Tryd.func3, Tryd.ntmps3
    go_wp2_with (first
      | (go_at_call 6; refine (ca _ HB).mono ?_; rintro e w1 ⟨rfl, hb⟩; replace HB := HB.trans (hb.mono HB.size); clear hb)
      | (go_at_call 7; refine (cf _ HB).mono ?_; rintro e w2 ⟨rfl, hb⟩; replace HB := HB.trans (hb.mono HB.size); clear hb)
      | (go_at_call 8; refine (cp _ HB).mono ?_; rintro e w3 ⟨hb, ⟨_, A3, c3, rfl, hs3, hc3⟩ | ⟨hx, _⟩⟩; (first | cases hx | skip); have HS3 := Lib.hid hs3; replace HB := HB.trans (hb.mono HB.size); clear hb hs3)
      | (go_at_call 9; refine (cm _ HB).mono ?_; rintro e w4 ⟨A4, c4, rfl, hs4, hc4, hb⟩; replace HS3 := Lib.hid ((HS3.out.below hb).mono hb.size); have HS4 := Lib.hid hs4; replace HB := HB.trans (hb.mono HB.size); clear hb hs4)
      | (go_at_call 10; refine (cr _ HB).mono ?_; rintro e w5 ⟨rfl, hb⟩; replace HS3 := Lib.hid ((HS3.out.below hb).mono hb.size); replace HS4 := Lib.hid ((HS4.out.below hb).mono hb.size); replace HB := HB.trans (hb.mono HB.size); clear hb)
      | (go_at_call 11; refine (cq _ HB).mono ?_; rintro e w6 ⟨rfl, hb⟩; replace HS3 := Lib.hid ((HS3.out.below hb).mono hb.size); replace HS4 := Lib.hid ((HS4.out.below hb).mono hb.size); replace HB := HB.trans (hb.mono HB.size); clear hb)
      | (go_at_call 12; refine (bytes_same A3 A4 _ c3 c4 _ M _ HS3.out HS4.out hM).mono ?_; rintro e w7 ⟨rfl, q, hq⟩; replace HB := hq ▸ below_drewN HB q; clear hq)
      | (go_at_call 13; refine (cz _ HB).mono ?_; rintro e w8 ⟨rfl, hb⟩; replace HB := HB.trans (hb.mono HB.size); clear hb))
    go_ret
    exact ⟨rfl, HB⟩
omit hM in
set_option maxHeartbeats 4000000 in
theorem puts_no
    (cp : ∀ W, Below w.heap.size w W → Calls Tryd.prog 8 #[.slice A n c, .int .i64 total, .string U] W (PutTo false [] W))
    (cm : ∀ W, Below w.heap.size w W → Calls Tryd.prog 9 #[.slice A n c, .int .i64 total, .string U] W (MulTo false [] W))
    (cz : ∀ W, Below w.heap.size w W → Calls Tryd.prog 13 #[.slice A n c, .int .i64 total, .string U] W fun e w' => e = .returned (.int .i64 0) ∧ Below W.heap.size W w') :
    Calls Tryd.prog 3 #[.slice A n c, .int .i64 total, .string U] w fun e w' => e = .returned (.bool true) ∧ Below w.heap.size w w' := by
  have HB := Below.refl w.heap.size w
  cases r
  all_goals
    go_enter Tryd.func3, Tryd.ntmps3
    go_wp2_with (first
      | (go_at_call 6; refine (ca _ HB).mono ?_; rintro e w1 ⟨rfl, hb⟩; replace HB := HB.trans (hb.mono HB.size); clear hb)
      | (go_at_call 7; refine (cf _ HB).mono ?_; rintro e w2 ⟨rfl, hb⟩; replace HB := HB.trans (hb.mono HB.size); clear hb)
      | (go_at_call 8; refine (cp _ HB).mono ?_; rintro e w3 ⟨hb, ⟨hx, _⟩ | ⟨_, rfl⟩⟩; (first | cases hx | skip); replace HB := HB.trans (hb.mono HB.size); clear hb)
      | (go_at_call 9; refine (cm _ HB).mono ?_; rintro e w4 ⟨A4, c4, rfl, hs4, hc4, hb⟩; replace HB := HB.trans (hb.mono HB.size); clear hb hs4)
      | (go_at_call 10; refine (cr _ HB).mono ?_; rintro e w5 ⟨rfl, hb⟩; replace HB := HB.trans (hb.mono HB.size); clear hb)
      | (go_at_call 11; refine (cq _ HB).mono ?_; rintro e w6 ⟨rfl, hb⟩; replace HB := HB.trans (hb.mono HB.size); clear hb)
      | (go_at_call 12; refine (bytes_same none A4 0 0 c4 0 [] _ (Bs.nil _ _ _) (Bs.nil _ _ _) (by omega)).mono ?_; rintro e w7 ⟨rfl, q, hq⟩; replace HB := hq ▸ below_drewN HB q; clear hq)
      | (go_at_call 13; refine (cz _ HB).mono ?_; rintro e w8 ⟨rfl, hb⟩; replace HB := HB.trans (hb.mono HB.size); clear hb))
    go_ret
    exact ⟨rfl, HB⟩
end
theorem few_parts {L : List Mu.Part} (h : Mu.few L = true) : Mu.bulk L ≤ 2000 ∧ L.length ≤ 20 := by
  unfold Mu.few at h
  rw [Bool.and_eq_true, decide_eq_true_eq, decide_eq_true_eq] at h
  omega
theorem put_len_few {L : List Mu.Part} (h : Mu.few L = true) (total : Int) {D : List UInt8} (hD : D.length ≤ 100) : (Mu.put L total D).length ≤ 7000 := by
  obtain ⟨h1, h2⟩ := few_parts h
  have h3 := Mu.put_len (n := 100) L D total hD
  have : L.length * (100 + 110) ≤ 20 * (100 + 110) := Nat.mul_le_mul_right _ h2
  unfold Mu.put Mu.close
  simp only [List.length_append, List.length_cons, List.length_nil]
  omega
theorem fine_comm (L : List Mu.Part) (t : Int) (D : List UInt8) : (Mu.may D && Mu.right L t) = Mu.fine L t D := by unfold Mu.fine; rw [Bool.and_comm]
theorem multiPuts_any (A : Option Addr) (n c : Nat) (L : List Mu.Part) (total : Int) (U : ByteArray) (w : World) (h : Ps w w.heap.size A n L) (_ : n ≤ c) (hcm : c ≤ maxLen) (hl : ∀ p ∈ L, p.2.2.length ≤ 140737488355328) (_ : U.size ≤ maxLen) (hE : Env w) :
    Calls Tryd.prog 3 #[.slice A n c, .int .i64 total, .string U] w fun e w' => e = .returned (.bool true) ∧ Below w.heap.size w w' := by
  have hm : maxLen ≤ 9223372036854775807 := by unfold maxLen; omega
  have hn : n ≤ 9223372036854775807 := by omega
  have ca := fun W (hb : Below w.heap.size w W) => awake8_yes W (hE.on hb)
  have cf := fun W (hb : Below w.heap.size w W) => few_any A n c w.heap.size L W (h.below hb) hb.size hn hl
  by_cases hg : (Mu.few L && decide (U.size ≤ 100)) = true
  · rw [Bool.and_eq_true, decide_eq_true_eq] at hg
    obtain ⟨hfw, h100⟩ := hg
    rw [hfw] at cf
    have hbk := (few_parts hfw).1
    have cr := fun W (hb : Below w.heap.size w W) => multiRight_any A n c w.heap.size L total W (h.below hb) hb.size hn
    have cq := fun W (hb : Below w.heap.size w W) => refRightParts_any A n c w.heap.size L total W (h.below hb) hb.size hn
    have cp := fun W (hb : Below w.heap.size w W) => put_any A n c w.heap.size L total U W (h.below hb) hb.size hn (by omega) (by omega) (hE.on hb)
    have cm := fun W (hb : Below w.heap.size w W) => refMulti_any A n c w.heap.size L total U W (h.below hb) hb.size hn (by omega) (by omega)
    have cz := fun W (hb : Below w.heap.size w W) => size_any A n c w.heap.size L total U W (h.below hb) hb.size hn (by omega) (by omega) (hE.on hb)
    have hs : decide ((100 : Int) < (U.size : Int)) = false := decide_eq_false (by omega)
    simp only [fine_comm] at cm
    have hpl := put_len_few hfw total (D := U.data.toList) (by rw [size_list]; exact h100)
    cases hok : Mu.fine L total U.data.toList with
    | true =>
      simp only [hok, if_true] at cp cm cz
      exact puts_yes A n c total U _ _ w hs (by omega) ca cf cr cq cp cm cz
    | false =>
      simp only [hok, Bool.false_eq_true, if_false] at cp cm cz
      exact puts_no A n c total U _ w hs ca cf cr cq cp cm cz
  · refine out_walk A n c total U (Mu.few L) (decide (U.size ≤ 100)) w ?_ (by simpa using hg) ca cf
    by_cases h100 : U.size ≤ 100
    · rw [decide_eq_true h100, decide_eq_false (by omega)]; rfl
    · rw [decide_eq_false h100, decide_eq_true (by omega)]; rfl
theorem multiPuts_walk (A : Option Addr) (n c : Nat) (L : List Mu.Part) (total : Int) (U : ByteArray) (w : World) (h : Ps w w.heap.size A n L) (hc : n ≤ c) (hcm : c ≤ maxLen) (hl : ∀ p ∈ L, p.2.2.length ≤ 140737488355328) (_ : -9223372036854775808 ≤ total) (_ : total ≤ 9223372036854775807) (hU : U.size ≤ maxLen)
    (ht : Lib.TabIs Tryd.prog w "internal/strconv.uint64pow10" .u64 Lib.pow10Tab) (h1 : 0 < w.heap.size) (h2 : w.cell? ⟨0, 0, none⟩ = some (.iface 97 (.agg #[.pointer (some ⟨HG, 46, none⟩)])))
    (h3 : ∃ m, w.cell? ⟨1, 0, none⟩ = some (.int .i64 m)) :
    Calls Tryd.prog 3 #[.slice A n c, .int .i64 total, .string U] w fun e w' => e = .returned (.bool true) ∧ Below w.heap.size w w' :=
  multiPuts_any A n c L total U w h hc hcm hl hU (env_of ht h1 h2 h3)
end Go.Proofs.YtlilkcbhlinolaaDoor
