/-
  Contract of multi.Read.
-/
import Derived.Test.YtlilkcbhlinolaaDoorMultiParts
namespace Go.Proofs.YtlilkcbhlinolaaDoor
open Go.ChangeShapes Go.WideShapes Go.ChangeAt Go.RowKit

def ReadYes (L : List Mu.Part) (t : Int) (w : World) (e : Ending) (w' : World) : Prop :=
  ∃ A c, e = .returned (.tuple #[.slice A L.length c, .int .i64 t, .int .i64 0]) ∧ Ps w' w'.heap.size A L.length L ∧ L.length ≤ c ∧ Below w.heap.size w w'
theorem read_arg (A : Option Addr) (n c : Nat) (U x : ByteArray) (w : World) (hE : Env w)
    (cp : ∀ W, Calls Tryd.prog 27 #[.slice A n c, .string U] W fun e w' => e = .returned (.tuple #[.slice none 0 0, .int .i64 0, argE x]) ∧ Below W.heap.size W w') :
    Calls Tryd.prog 14 #[.slice A n c, .string U] w fun e w' => e = .returned (.tuple #[.slice none 0 0, .int .i64 0, .int .i64 1]) ∧ Below w.heap.size w w' := by
  have HE := Lib.hid hE
  clear hE
  go_enter Tryd.func14, Tryd.ntmps14
  go_wp2_with (first
    | (go_at_call 27; refine (cp _).mono ?_; rintro e w1 ⟨rfl, hb⟩; replace HE := Lib.hid (HE.out.on hb); have HB := Lib.hid hb; clear hb)
    | (go_at_call 19; refine (number_arg _ _ HE.out).mono ?_; rintro e w2 ⟨rfl, hb⟩; replace HB := Lib.hid (HB.out.trans (hb.mono HB.out.size)); clear hb))
  go_ret3
  exact ⟨rfl, HB.out⟩
theorem read_form (A : Option Addr) (n c : Nat) (U : ByteArray) (w : World) (hE : Env w)
    (cp : Calls Tryd.prog 27 #[.slice A n c, .string U] w fun e w' => (∃ x, e = .returned (.tuple #[.slice none 0 0, .int .i64 0, formE x])) ∧ Below w.heap.size w w') :
    Calls Tryd.prog 14 #[.slice A n c, .string U] w fun e w' => e = .returned (.tuple #[.slice none 0 0, .int .i64 0, .int .i64 3]) ∧ Below w.heap.size w w' := by
  have HE := Lib.hid hE
  clear hE
  go_enter Tryd.func14, Tryd.ntmps14
  go_wp2_with (first
    | (go_at_call 27; refine cp.mono ?_; rintro e w1 ⟨⟨x, rfl⟩, hb⟩; replace HE := Lib.hid (HE.out.on hb); have HB := Lib.hid hb; clear hb)
    | (go_at_call 19; refine (number_form _ _ HE.out).mono ?_; rintro e w2 ⟨rfl, hb⟩; replace HB := Lib.hid (HB.out.trans (hb.mono HB.out.size)); clear hb))
  go_ret3
  exact ⟨rfl, HB.out⟩
theorem read_right (A : Option Addr) (n c : Nat) (U : ByteArray) (L : List Mu.Part) (t : Int) (w : World)
    (cp : Calls Tryd.prog 27 #[.slice A n c, .string U] w fun e w' => ∃ A2 c2, e = .returned (.tuple #[.slice A2 L.length c2, .int .i64 t, .nilIface]) ∧ Ps w' w'.heap.size A2 L.length L ∧ L.length ≤ c2 ∧ Below w.heap.size w w') :
    Calls Tryd.prog 14 #[.slice A n c, .string U] w (ReadYes L t w) := by
  go_enter Tryd.func14, Tryd.ntmps14
  go_wp2_with (go_at_call 27; refine cp.mono ?_; rintro e w1 ⟨A2, c2, rfl, hps, hc2, hb⟩; have HP := Lib.hid hps; have HB := Lib.hid hb; clear hps hb)
  go_ret3
  exact ⟨A2, c2, rfl, HP.out, hc2, HB.out⟩
theorem may_40 {U : ByteArray} (hm : Mu.may U.data.toList = true) : U.size ≤ 40 := by
  unfold Mu.may at hm
  rw [Bool.and_eq_true, decide_eq_true_eq, size_list] at hm
  omega
section
variable (A : Option Addr) (n c B : Nat) (l : List UInt8) (U : ByteArray) (w : World) (h : Bs w B A n l) (hB : B ≤ w.heap.size) (hc : n ≤ c) (hn : n ≤ 20000) (hE : Env w)
include h hB hc hn hE
theorem parts_any (hm : Mu.may U.data.toList = true) : Calls Tryd.prog 27 #[.slice A n c, .string U] w (PartsTo U.data.toList l w) := by
  have hU := may_40 hm
  obtain ⟨he, hs⟩ := may_sizes U
  exact parts_right A n c B l U w h hB hc hn hU hm hE (fun W => checkBound_walk U _ _ W hs (fun W => token_any U W (by omega)) (by rw [← he]; exact hm))
/-- P8.3: bytes that are Put of no parts -/
theorem read_none (hm : Mu.may U.data.toList = true) (hno : ∀ L t, ¬ Mu.Is U.data.toList l L t) :
    Calls Tryd.prog 14 #[.slice A n c, .string U] w fun e w' => e = .returned (.tuple #[.slice none 0 0, .int .i64 0, .int .i64 3]) ∧ Below w.heap.size w w' :=
  read_form A n c U w hE ((parts_any A n c B l U w h hB hc hn hE hm).mono fun e w' ⟨hb, hx⟩ => by
    rcases hx with ⟨L, t, _, _, _, hi, _⟩ | ⟨_, x, he⟩
    · exact absurd hi (hno L t)
    · exact ⟨⟨x, he⟩, hb⟩)
/-- P8.3, P8.4: bytes that are Put of some parts -/
theorem read_is (hm : Mu.may U.data.toList = true) {L : List Mu.Part} {t : Int} (hi : Mu.Is U.data.toList l L t) : Calls Tryd.prog 14 #[.slice A n c, .string U] w (ReadYes L t w) :=
  read_right A n c U L t w ((parts_any A n c B l U w h hB hc hn hE hm).mono fun e w' ⟨hb, hx⟩ => by
    rcases hx with ⟨L2, t2, A2, n2, c2, hi2, he, hps, hc2⟩ | ⟨hno, _⟩
    · obtain ⟨rfl, rfl, _⟩ := Mu.only (r := []) hi.1 hi2.1 (by rw [List.append_nil, hi.2, hi2.2])
      have hl := hps.1
      subst hl
      exact ⟨A2, c2, he, hps, hc2, hb⟩
    · exact absurd hi (hno L t))
end
theorem read_wrong (A : Option Addr) (n c : Nat) (U : ByteArray) (w : World) (hU : U.size ≤ 9223372036854775807) (hE : Env w) (hm : Mu.may U.data.toList = false) :
    Calls Tryd.prog 14 #[.slice A n c, .string U] w fun e w' => e = .returned (.tuple #[.slice none 0 0, .int .i64 0, .int .i64 1]) ∧ Below w.heap.size w w' := by
  obtain ⟨he, hs⟩ := may_sizes U
  exact read_arg A n c U _ w hE (fun W => parts_arg A n c U _ W (fun W => checkBound_no U _ _ W hs (fun W => token_any U W hU) (by rw [← he]; exact hm)))

end Go.Proofs.YtlilkcbhlinolaaDoor
