/-
  The library's bytes.Equal and bytes.HasPrefix, over slices that read as lists; the program's left.
-/
import Derived.Test.YtgnncbbfbhipaaaCrashMath
import Derived.Laws.IdiomStrings
import Derived.LoopTactic
import Derived.BigQuiet
namespace Go.Proofs.Ytgnncbbfbhipaaa
open Go.ChangeShapes Go.WideShapes Go.ChangeAt Go.RowKit Fl
set_option maxRecDepth 100000

theorem map_zero (A : Option Addr) : A.map (·.add 0) = A := by
  cases A with
  | none => rfl
  | some a => obtain ⟨b, o, q⟩ := a; cases q <;> simp [Addr.add]
section
variable {w : World} {B B2 n c m d : Nat} {A A2 : Option Addr} {l p : List UInt8}
theorem conv_bs (h : Bs w B A n l) : (convert 46 9 (.slice A n c)).run Try.prog w = .ok (.string ⟨l.toArray⟩) w := by
  cases A with
  | some a =>
    rw [← h.1]
    refine run_convert_bytes_back (P := Try.prog) w _ _ 5 a c l Try.underlying46 Try.underlying5 Try.underlying9 (fun j hj => ?_)
    obtain ⟨b, off, e, _, hc⟩ := h.2 (by have := h.1; omega)
    injection e with e
    subst e
    have e : (⟨b, off, none⟩ : Addr).add j = ⟨b, off + j, none⟩ := by
      simp only [Addr.add]
      split <;> simp_all
    rw [e]
    exact hc j hj
  | none =>
    have hn : n = 0 := by
      rcases Nat.eq_zero_or_pos n with h0 | h0
      · exact h0
      · obtain ⟨b, off, e, _⟩ := h.2 h0
        cases e
    subst hn
    have hl : l = [] := List.eq_nil_of_length_eq_zero h.1
    subst hl
    rw [run_convert_bytes_string w _ _ 5 none 0 c Try.underlying46 Try.underlying5 Try.underlying9]
    rfl
theorem equal_bs (h : Bs w B A n l) (h2 : Bs w B2 A2 m p) :
    Calls Try.prog 59 #[.slice A n c, .slice A2 m d] w fun e w' => e = .returned (.bool (decide (l = p))) ∧ w = w' := by
  have k1 := conv_bs (c := c) h
  have k2 := conv_bs (c := d) h2
  have he : (l == p) = decide (l = p) := by
    rw [Bool.eq_iff_iff]
    simp
  rw [← he]
  clear h h2 he
  go_enter Try.func59, Try.ntmps59
  go_wp2
  go_ret
  exact ⟨rfl, rfl⟩
theorem slice_to (A : Option Addr) (n c k : Nat) (h : k ≤ n) (hc : n ≤ c) (w : World) :
    (Instr.slice 46 (.slice A n c) none (some (.int .i64 (k : Int))) none).run Try.prog w = .ok (.slice A k c) w := by
  have h1 := run_slice_h (P := Try.prog) w 46 A n c (by kernel_rfl) .i64 (k : Int) (by omega) (by omega)
  have h2 : (sizeOf (Try.prog.elem 46)).run Try.prog w = .ok 1 w := by kernel_rfl
  rw [h1, h2]
  simp [sliced, Result.andThen, map_zero]
theorem hasPrefix_any (h : Bs w B A n l) (hnc : n ≤ c) (h2 : Bs w B2 A2 m p) (hm : m ≤ n) :
    Calls Try.prog 55 #[.slice A n c, .slice A2 m d] w fun e w' => e = .returned (.bool (decide (l.take m = p))) ∧ w = w' := by
  have hs := slice_to A n c m hm hnc w
  have ce := equal_bs (c := c) (d := d) (h.front hm) h2
  have hle : decide ((m : Int) ≤ n) = true := decide_eq_true (by omega)
  clear h h2
  go_enter Try.func55, Try.ntmps55
  go_wp2_with (go_at_call 59; (with_reducible refine ce.mono ?_); rintro e w' ⟨rfl, rfl⟩)
  go_ret
  exact ⟨rfl, rfl⟩
set_option maxHeartbeats 2000000 in
theorem left_any {y : List UInt8} (h : Bs w B A n l) (hnc : n ≤ c) (h2 : Bs w B2 A2 n y) (hnd : n ≤ d) (hn9 : n ≤ 9223372036854775807) :
    Calls Try.prog 41 #[.slice A n c, .slice A2 n d] w fun e w' => e = .returned (.bool (lft l y)) ∧ w = w' := by
  have HX := Lib.hid h
  have HY := Lib.hid h2
  clear h h2
  go_enter Try.func41, Try.ntmps41
  go_wp2
  go_loopw [5] (fun i wr => ∃ k : Nat, k ≤ n ∧ i = .int .i64 k ∧ Hid (((l.drop k).all fun z => decide (z = 255)) = true) ∧ wr = w) (fun i _ => (intOf i).toNat)
  case atStart => exact ⟨n, Nat.le_refl _, rfl, Lib.hid (by rw [List.drop_of_length_le (by rw [HX.out.1]; exact Nat.le_refl _)]; rfl), rfl⟩
  case round =>
    obtain ⟨k, hk, rfl, HF, rfl⟩ := hrel
    have hend (hx : k = 0 ∨ ∃ h : k - 1 < l.length, l[k - 1] ≠ 255) : Calls Try.prog 55 #[.slice A2 n d, .slice A k c] wr fun e w' => e = .returned (.bool (lft l y)) ∧ wr = w' := by
      have h1 := lft_is (x := l) (y := y) (n := k) (by rw [HX.out.1, HY.out.1]) (by rw [HX.out.1]; exact hk) HF.out hx
      rw [← h1]
      exact hasPrefix_any HY.out hnd (HX.out.front hk) hk
    have HEND := Lib.hid hend
    have hsl := slice_to A n c k hk hnc wr
    clear hend
    rcases Nat.eq_zero_or_pos k with hk0 | hk0
    · subst hk0
      have cp := HEND.out (.inl rfl)
      have hd : decide ((0 : Int) < (0 : Nat)) = false := by decide
      go_wp2_with (go_at_call 55; (with_reducible refine cp.mono ?_); rintro e w' ⟨rfl, rfl⟩)
      go_ret
      exact ⟨rfl, rfl⟩
    · have hd : decide ((0 : Int) < (k : Int)) = true := decide_eq_true (by omega)
      have hw : IntKind.i64.wrap ((k : Int) - 1) = ((k - 1 : Nat) : Int) := by rw [IntWalk.i64_in _ (by omega)]; omega
      obtain ⟨b, off, rfl, hb, hc⟩ := HX.out.2 (by omega)
      have hkl : k - 1 < l.length := by rw [HX.out.1]; omega
      have hcell := hc (k - 1) hkl
      have HXK := Lib.hid (fun h => HEND.out (.inr ⟨hkl, h⟩))
      have HNX : Hid (l[k - 1] = 255 → ((l.drop (k - 1)).all fun z => decide (z = 255)) = true) := Lib.hid fun h => by
        rw [List.drop_eq_getElem_cons hkl, List.all_cons, show k - 1 + 1 = k by omega, HF.out, h]
        rfl
      generalize l[k - 1] = z at *
      clear hc hkl
      by_cases hz : z = 255
      · have HQ := Lib.hid (HNX.out hz)
        subst hz
        clear HXK HNX
        go_wp2
        go_roundw
        case rel => exact ⟨k - 1, by omega, by first | rfl | (go_num), HQ, by first | rfl | trivial⟩
        case measure => simp [intOf]; omega
      · have cp := HXK.out hz
        have hz2 : ((z.toNat : Int) == 255) = false := by
          rw [beq_eq_false_iff_ne]
          intro e
          exact hz (UInt8.toNat_inj.1 (by show z.toNat = 255; omega))
        clear HXK HNX hz
        go_wp2_with (go_at_call 55; (with_reducible refine cp.mono ?_); rintro e w' ⟨rfl, rfl⟩)
        go_ret
        exact ⟨rfl, rfl⟩
end
end Go.Proofs.Ytgnncbbfbhipaaa
