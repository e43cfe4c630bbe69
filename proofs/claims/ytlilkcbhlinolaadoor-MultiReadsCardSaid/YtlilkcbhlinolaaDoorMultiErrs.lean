/-
  Contracts: what the library's variables hold, carried on; multi.checkBound; multi.number.
-/
import Derived.Test.YtlilkcbhlinolaaDoorErrorsAs
import Derived.Test.YtlilkcbhlinolaaDoorTextToken
import Derived.Test.YtlilkcbhlinolaaDoorCrangePrint
import Derived.Test.YtlilkcbhlinolaaDoorParts
namespace Go.Proofs.YtlilkcbhlinolaaDoor
open Go.ChangeShapes Go.WideShapes Go.ChangeAt Go.RowKit

/-- the library's variables: the table of powers of ten, the type error's handle, bytealg.MaxLen (any int) -/
def Env (w : World) : Prop :=
  Tab w ∧ (0 < w.heap.size ∧ w.cell? ⟨0, 0, none⟩ = some (.iface 97 (.agg #[.pointer (some ⟨HG, 46, none⟩)]))) ∧
    (1 < w.heap.size ∧ ∃ m, w.cell? ⟨1, 0, none⟩ = some (.int .i64 m))
theorem Env.on {w w1 : World} (h : Env w) (hb : Below w.heap.size w w1) : Env w1 := by
  obtain ⟨h1, ⟨h2, h3⟩, h4, m, h5⟩ := h
  exact ⟨h1.on hb, ⟨Nat.lt_of_lt_of_le h2 hb.size, (hb.cell (p := ⟨_, 0, none⟩) h2).trans h3⟩, Nat.lt_of_lt_of_le h4 hb.size, m, (hb.cell (p := ⟨_, 0, none⟩) h4).trans h5⟩
theorem Env.drewN {w : World} (h : Env w) (m : Nat) : Env (w.drewN m) := h.on (below_drewN (Below.refl _ _) m)

abbrev argE (x : ByteArray) : Value := .iface 60 (.agg #[.string x])
abbrev formE (x : ByteArray) : Value := .iface 63 (.agg #[.string x])
theorem checkBound_walk (U : ByteArray) (tk sm : Bool) (w : World) (hs : decide ((40 : Int) < (U.size : Int)) = !sm)
    (ct : ∀ W, Calls Tryd.prog 38 #[.string U] W fun e w' => e = .returned (.bool tk) ∧ Below W.heap.size W w') :
    (tk && sm) = true → Calls Tryd.prog 29 #[.string U] w fun e w' => e = .returned .nilIface ∧ Below w.heap.size w w' := by
  cases tk <;> cases sm <;> intro h
  case true.true =>
    go_enter Tryd.func29, Tryd.ntmps29
    go_wp2_with (go_at_call 38; refine (ct _).mono ?_; rintro e w1 ⟨rfl, hb⟩)
    go_ret
    exact ⟨rfl, hb⟩
  all_goals cases h
theorem checkBound_no (U : ByteArray) (tk sm : Bool) (w : World) (hs : decide ((40 : Int) < (U.size : Int)) = !sm)
    (ct : ∀ W, Calls Tryd.prog 38 #[.string U] W fun e w' => e = .returned (.bool tk) ∧ Below W.heap.size W w') :
    (tk && sm) = false → Calls Tryd.prog 29 #[.string U] w fun e w' => e = .returned (argE ⟨#[116, 104, 101, 32, 98, 111, 117, 110, 100]⟩) ∧ Below w.heap.size w w' := by
  cases tk <;> cases sm <;> intro h
  case true.true => cases h
  all_goals
    go_enter Tryd.func29, Tryd.ntmps29
    go_wp2_with (go_at_call 38; refine (ct _).mono ?_; rintro e w1 ⟨rfl, hb⟩)
    go_ret
    exact ⟨rfl, hb⟩
/-- what checkBound answers: none, or an error of the arguments' -/
def BoundTo (ok : Bool) (w : World) (e : Ending) (w' : World) : Prop :=
  ((ok = true ∧ e = .returned .nilIface) ∨ (ok = false ∧ ∃ x, e = .returned (argE x))) ∧ Below w.heap.size w w'
theorem checkBound_any (U : ByteArray) (w : World) (hU : U.size ≤ 9223372036854775807) : Calls Tryd.prog 29 #[.string U] w (BoundTo (Mu.may U.data.toList) w) := by
  have hm : Mu.may U.data.toList = (Tx.token U.data.toList && decide ((U.size : Int) ≤ 40)) := by unfold Mu.may; rw [size_list]
  have hs : decide ((40 : Int) < (U.size : Int)) = !decide ((U.size : Int) ≤ 40) := by
    by_cases hs : (U.size : Int) ≤ 40
    · rw [decide_eq_true hs, decide_eq_false (by omega)]; rfl
    · rw [decide_eq_false hs, decide_eq_true (by omega)]; rfl
  cases hok : Mu.may U.data.toList with
  | true => exact (checkBound_walk U _ _ w hs (fun W => token_any U W hU) (by rw [← hm]; exact hok)).mono fun e w' ⟨h, hb⟩ => ⟨.inl ⟨rfl, h⟩, hb⟩
  | false => exact (checkBound_no U _ _ w hs (fun W => token_any U W hU) (by rw [← hm]; exact hok)).mono fun e w' ⟨h, hb⟩ => ⟨.inr ⟨rfl, _, h⟩, hb⟩

theorem number_arg (x : ByteArray) (w : World) (hE : Env w) :
    Calls Tryd.prog 19 #[argE x] w fun e w' => e = .returned (.int .i64 1) ∧ Below w.heap.size w w' := by
  have hB := (below_new w (.cells #[.string ⟨#[]⟩] 60)).alloc (by simp) (.cells #[.string ⟨#[]⟩] 63)
  obtain ⟨_, ⟨e1, e2⟩, _⟩ := hE.on hB
  have co := as_same_argError w.heap.size x (.string ⟨#[]⟩) _ e1 (by simp; omega) (by simp) (by simp) e2
  have HB := Lib.hid hB
  clear hB e1 e2 hE
  go_enter Tryd.func19, Tryd.ntmps19
  go_wp2_with (go_at_call 30; refine co.mono ?_; rintro e w2 ⟨rfl, hp⟩; clear co; replace hp := Lib.hid hp)
  go_ret
  exact ⟨rfl, HB.out.trans (hp.out.below (by simp; omega))⟩
theorem number_form (x : ByteArray) (w : World) (hE : Env w) :
    Calls Tryd.prog 19 #[formE x] w fun e w' => e = .returned (.int .i64 3) ∧ Below w.heap.size w w' := by
  have hB := (below_new w (.cells #[.string ⟨#[]⟩] 60)).alloc (by simp) (.cells #[.string ⟨#[]⟩] 63)
  obtain ⟨_, ⟨e1, e2⟩, _⟩ := hE.on hB
  have co := as_other_formError_argError w.heap.size x _ e1 e2
  have HE := Lib.hid (hE.on hB)
  have HB := Lib.hid hB
  have HC : Hid (∀ W, Below (w.heap.size + 2) ((w.alloc (.cells #[.string ⟨#[]⟩] 60)).alloc (.cells #[.string ⟨#[]⟩] 63)) W → W.cell? ⟨w.heap.size + 1, 0, none⟩ = some (.string ⟨#[]⟩) ∧ W.frozen? ⟨w.heap.size + 1, 0, none⟩ = false ∧ w.heap.size + 1 < W.heap.size) := Lib.hid fun W hb => by
    have hs : ((w.alloc (.cells #[.string ⟨#[]⟩] 60)).alloc (.cells #[.string ⟨#[]⟩] 63)).heap.size = w.heap.size + 2 := by simp
    refine ⟨(hb.cell (p := ⟨w.heap.size + 1, 0, none⟩) (by show w.heap.size + 1 < w.heap.size + 2; omega)).trans (by simp), (hb.frozen (p := ⟨w.heap.size + 1, 0, none⟩) (by show w.heap.size + 1 < w.heap.size + 2; omega)).trans (by simp), ?_⟩
    have := hb.size
    omega
  clear hB e1 e2 hE
  go_enter Tryd.func19, Tryd.ntmps19
  go_wp2_with (first
    | (go_at_call 30; have tok := co; refine co.mono ?_; rintro e w2 ⟨rfl, hb⟩; clear co tok; replace HE := Lib.hid (HE.out.on hb); have h1 := HC.out _ (by simpa using hb); replace HB := Lib.hid (HB.out.trans (hb.mono (by simp; omega))); clear hb)
    | (go_at_call 30; refine (as_same_formError (w.heap.size + 1) x (.string ⟨#[]⟩) _ HE.out.2.1.1 h1.2.2 h1.1 h1.2.1 HE.out.2.1.2).mono ?_; rintro e w3 ⟨rfl, hp⟩; replace HB := Lib.hid (HB.out.trans (hp.below (by have := h1.2.2; omega) |>.mono (by omega)))))
  go_ret
  exact ⟨rfl, HB.out⟩
end Go.Proofs.YtlilkcbhlinolaaDoor
