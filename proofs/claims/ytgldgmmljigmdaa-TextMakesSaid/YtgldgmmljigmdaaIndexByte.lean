/-
  Contracts of the library's strings.IndexByte and strings.LastIndexByte.
-/
import Derived.Test.YtgldgmmljigmdaaChecked
import Derived.WalkKit
import Derived.ProofKit
import Derived.OpenShut
import Derived.Outline
import Derived.Lib.Hide
import Derived.LoopTactic
import Derived.Deep.QuietTactic
import Derived.BigQuiet
import Derived.Lib.Strings
import Derived.WalkMore
import Derived.Deep.LoopGhost
import Derived.Lib.Bytealg
namespace Go.Proofs.Ytgldgmmljigmdaa
open Go.ChangeShapes Go.WideShapes Go.ChangeAt Go.RowKit

theorem indexByte_none {l : List UInt8} {c : UInt8} (h : c ∉ l) : Lib.indexByte l c = -1 := by
  induction l with
  | nil => rfl
  | cons x l ih =>
    have hx : (x == c) = false := beq_eq_false_iff_ne.2 fun e => h (by rw [e]; exact List.mem_cons_self ..)
    have ha := ih (fun e => h (List.mem_cons_of_mem _ e))
    unfold Lib.indexByte
    rw [hx, ha]
    rfl
theorem indexByte_at {a b : List UInt8} {c : UInt8} (h : c ∉ a) : Lib.indexByte (a ++ c :: b) c = (a.length : Int) := by
  induction a with
  | nil => simp [Lib.indexByte]
  | cons x l ih =>
    have hx : (x == c) = false := beq_eq_false_iff_ne.2 fun e => h (by rw [e]; exact List.mem_cons_self ..)
    have ha := ih (fun e => h (List.mem_cons_of_mem _ e))
    rw [List.cons_append]
    unfold Lib.indexByte
    rw [hx, ha]
    have : ((l.length : Int) == -1) = false := by rw [beq_eq_false_iff_ne]; omega
    rw [this]
    simp
theorem u8_back (c : UInt8) : ((c.toNat : Int)).toNat.toUInt8 = c := by
  rw [Int.toNat_natCast]
  exact UInt8.ofNat_toNat

theorem indexByte_run (s : ByteArray) (c : UInt8) (w : World) :
    Calls Try.prog 28 #[.string s, .int .u8 (c.toNat : Int)] w fun e w' => e = .returned (.int .i64 (Lib.indexByte s.data.toList c)) ∧ w = w' := by
  have hr : ∀ w, (callFunc 30 #[.string s, .int .u8 (c.toNat : Int)]).run Try.prog w = .ok (.value (.int .i64 (Lib.indexByte s.data.toList c))) w := by
    intro w
    rw [run_callFunc_extern Try.func30 (by kernel_rfl) (by kernel_rfl) (by kernel_rfl) (e := Extern.BytealgIndexByte.indexByte) (by kernel_rfl), Lib.run_indexByteString, u8_back]
    rfl
  go_enter Try.func28, Try.ntmps28
  go_wp2
  go_ret
  exact ⟨rfl, rfl⟩
theorem idx_any (s : ByteArray) (c : UInt8) (w : World) :
    Calls Try.prog 22 #[.string s, .int .u8 (c.toNat : Int)] w fun e w' => e = .returned (.int .i64 (Lib.indexByte s.data.toList c)) ∧ w = w' := by
  go_enter Try.func22, Try.ntmps22
  go_wp2_with (go_at_call 28; refine (indexByte_run _ _ _).mono ?_; rintro e w' ⟨rfl, rfl⟩)
  go_ret
  exact ⟨rfl, rfl⟩

theorem snoc_take (s : ByteArray) (k : Nat) (h : k < s.size) : s.data.toList.drop k = s[k] :: s.data.toList.drop (k + 1) := by
  rw [List.drop_eq_getElem_cons (by simpa using h)]; rfl

/-- the last place of a byte: what stands behind it has none -/
theorem lastIdx_run (s : ByteArray) (c : UInt8) (w : World) (hs : s.size ≤ 9223372036854775807) :
    Calls Try.prog 31 #[.string s, .int .u8 (c.toNat : Int)] w fun e w' => (∃ k : Nat, e = .returned (.int .i64 ((k : Int) - 1)) ∧ k ≤ s.size ∧ c ∉ s.data.toList.drop k ∧ (k = 0 ∨ ∃ a, s.data.toList = a ++ c :: s.data.toList.drop k ∧ a.length + 1 = k)) ∧ w = w' := by
  go_enter Try.func31, Try.ntmps31
  go_wp2
  go_loop [5] (fun i => ∃ k : Nat, k ≤ s.size ∧ i = .int .i64 ((k : Int) - 1) ∧ Hid (c ∉ s.data.toList.drop k)) (fun i => (intOf i + 1).toNat)
  case atStart => exact ⟨s.size, by omega, rfl, Lib.hid (by rw [List.drop_of_length_le (by simp)]; simp)⟩
  case round =>
    obtain ⟨k, hk, rfl, HN⟩ := hrel
    rcases k with _ | k
    · go_wp2
      go_ret
      exact ⟨⟨0, rfl, by omega, HN.out, .inl rfl⟩, rfl⟩
    · have hk' : k < s.size := by omega
      have e1 : ((k + 1 : Nat) : Int) - 1 = (k : Int) := by omega
      rw [e1]
      clear e1
      by_cases hc : s[k] = c
      · have ht : ((s[k].toNat : Int) == (c.toNat : Int)) = true := by rw [hc]; simp
        have H : Hid (∃ a, s.data.toList = a ++ c :: s.data.toList.drop (k + 1) ∧ a.length + 1 = k + 1) := Lib.hid ⟨s.data.toList.take k, by rw [← hc, ← snoc_take s k hk', List.take_append_drop], by rw [List.length_take]; simp; omega⟩
        clear hc
        go_wp2
        go_ret
        exact ⟨⟨k + 1, by simp, hk, HN.out, .inr H.out⟩, rfl⟩
      · have ht : ((s[k].toNat : Int) == (c.toNat : Int)) = false := by
          rw [beq_eq_false_iff_ne]
          intro e
          exact hc (UInt8.toNat_inj.1 (by omega))
        have HN2 : Hid (c ∉ s.data.toList.drop k) := Lib.hid (by
          rw [snoc_take s k hk']
          intro e
          rcases List.mem_cons.1 e with h | h
          · exact hc h.symm
          · exact HN.out h)
        clear hc HN
        go_wp2
        go_round
        case rel => exact ⟨k, by omega, rfl, HN2⟩
        case measure => simp [intOf]
theorem lastIdx_any (s : ByteArray) (c : UInt8) (w : World) (hs : s.size ≤ 9223372036854775807) :
    Calls Try.prog 29 #[.string s, .int .u8 (c.toNat : Int)] w fun e w' => (∃ k : Nat, e = .returned (.int .i64 ((k : Int) - 1)) ∧ k ≤ s.size ∧ c ∉ s.data.toList.drop k ∧ (k = 0 ∨ ∃ a, s.data.toList = a ++ c :: s.data.toList.drop k ∧ a.length + 1 = k)) ∧ w = w' := by
  go_enter Try.func29, Try.ntmps29
  go_wp2_with (go_at_call 31; refine (lastIdx_run _ _ _ hs).mono ?_; rintro e w' ⟨⟨k, rfl, hk, hn, ho⟩, rfl⟩; replace hn := Lib.hid hn; replace ho := Lib.hid ho)
  go_ret
  exact ⟨⟨k, rfl, hk, hn.out, ho.out⟩, rfl⟩
end Go.Proofs.Ytgldgmmljigmdaa
