/-
  codec.number (some of the bytes as a number) and bytes.Clone.
-/
import Derived.Test.YtidjajdgphkbbaaRRNumsGet
import Derived.Test.YtidjajdgphkbbaaRRBytesAppend
import Derived.Test.YtidjajdgphkbbaaRRMakeBytes
import Derived.Test.YtidjajdgphkbbaaRRTold
import Derived.Lib.Hide
namespace Go.Proofs.YtidjajdgphkbbaaRR
open Go.ChangeShapes Go.WideShapes Go.ChangeAt Go.RowKit
set_option maxRecDepth 100000

theorem cnumber_any (A : Option Addr) (n c at_ end_ : Nat) (aI eI : Int) (l : List UInt8) (B : Nat) (w : World) (hs : Bs w B A n l) (hnc : n ≤ c) (hn : n ≤ 1000000) (hk : end_ ≤ at_ + 7) (ha : at_ ≤ end_) (he : end_ ≤ n) (e1 : (at_ : Int) = aI) (e2 : (end_ : Int) = eI) :
    Calls Try.prog 16 #[.slice A n c, .int .i64 aI, .int .i64 eI] w fun e w' => e = .returned (.int .i64 (Fm.num ((l.drop at_).take (end_ - at_)) : Nat)) ∧ w = w' := by
  subst e1 e2
  obtain ⟨k, rfl⟩ : ∃ k, end_ = at_ + k := ⟨end_ - at_, by omega⟩
  have cg := numsGet_any A n c at_ k l B w hs hnc (by omega) (by omega) (by omega)
  rw [Nat.add_sub_cancel_left]
  have hlt := Fm.num_lt ((l.drop at_).take k)
  have h56 : Fm.num ((l.drop at_).take k) < 72057594037927936 := Nat.lt_of_lt_of_le hlt (by
    have : 2 ^ (8 * ((l.drop at_).take k).length) ≤ 2 ^ 56 := Nat.pow_le_pow_right (by omega) (by rw [List.length_take]; omega)
    simpa using this)
  generalize Fm.num ((l.drop at_).take k) = q at *
  have hw1 : IntKind.i64.wrap ((at_ : Int) + (k : Int) - (at_ : Int)) = (k : Int) := by rw [IntWalk.i64_in _ (by omega)]; omega
  rw [Int.natCast_add]
  have hw2 : IntKind.i64.wrap (q : Int) = (q : Int) := IntWalk.i64_in _ (by omega)
  clear hs hlt
  go_enter Try.func16, Try.ntmps16
  go_wp2_with (go_at_call 24; (with_reducible refine cg.mono ?_); rintro e w' ⟨rfl, rfl⟩)
  go_ret
  exact ⟨rfl, rfl⟩
theorem bytesNilC (A : Option Addr) (n c : Nat) (w : World) : (binOp BinOp.eql 22 (.slice A n c) (.slice none 0 0)).run Try.prog w = .ok (.bool A.isNone) w := by
  cases A <;> kernel_rfl
/-- a copy of the bytes, new -/
theorem bytesClone_any (A : Option Addr) (n c : Nat) (l : List UInt8) (B : Nat) (w : World) (hs : Bs w B A n l) (hB : B ≤ w.heap.size) (hn : n ≤ 1000000) :
    Calls Try.prog 17 #[.slice A n c] w fun e w' =>
      ∃ A' c', e = .returned (.slice A' n c') ∧ Bs w' w'.heap.size A' n l ∧ n ≤ c' ∧ Below w.heap.size w w' ∧ ∀ a : Addr, A' = some a → w.heap.size ≤ a.block := by
  have hq := bytesNilC
  rcases A with _ | ad
  · have hn0 : n = 0 := by
      rcases Nat.eq_zero_or_pos n with h | h
      · exact h
      · obtain ⟨b, off, hno, _⟩ := hs.2 h
        cases hno
    subst hn0
    obtain rfl : l = [] := List.eq_nil_of_length_eq_zero hs.1
    clear hs
    go_enter Try.func17, Try.ntmps17
    go_wp2
    go_ret
    exact ⟨none, 0, rfl, Bs.nil _ _ _, Nat.le_refl _, Below.refl _ _, fun a ha => by cases ha⟩
  · obtain ⟨i0, hi, hz, hsz, hby⟩ := info_parts u8_info
    have HI := Lib.hid hi
    have HZ := Lib.hid hz
    have HSZ := Lib.hid hsz
    have HBY := Lib.hid hby
    have HS := Lib.hid hs
    have HBW := Lib.hid hB
    clear hi hz hsz hby hs hB
    go_enter Try.func17, Try.ntmps17
    go_wp2_with (at_builtin; refine wpList_append_bytes (o := ⟨some 7, _, _, _, _, _⟩) rfl (.tmp 5) (.tmp 6) 22 rfl w.heap.size 5 i0 Try.underlying22 HI.out HZ.out HSZ.out HBY.out _ 0 [] rfl (World.ownsRow_lit (base := w.heap.size) (e := 5) (size := 1) w #[] 0 (Nat.le_refl _) (by simp) rfl) B (some ad) n c l rfl (HS.out.below ((Below.refl B w).alloc HBW.out _)) (by omega) (by simp) ?_; intro v' w' HO HG)
    go_ret
    have ho := HO.out
    rw [Nat.zero_add, List.nil_append] at ho
    obtain ⟨A, cap, rfl, hbs, hc⟩ := own_bs ho
    have hb : Below w.heap.size w w' := ((Below.refl _ _).alloc (Nat.le_refl _) _).grown HG.out (by simp) (fun q hq => by injection hq with hq; exact Nat.le_of_eq hq)
    refine ⟨A, cap, rfl, hbs, hc, hb, fun a ha => ?_⟩
    subst ha
    exact (ho.lt _ rfl).1
end Go.Proofs.YtidjajdgphkbbaaRR
