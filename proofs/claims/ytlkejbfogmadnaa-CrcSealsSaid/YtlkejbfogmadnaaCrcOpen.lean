/-
  Contract of crc.Open.
-/
import Derived.Test.YtlkejbfogmadnaaCrcSeal
import Derived.Deep.QuietTactic
import Derived.BigQuiet
namespace Go.Proofs.Ytlkejbfogmadnaa
open Go.ChangeShapes Go.WideShapes Go.ChangeAt Go.RowKit

theorem u32_word (v k : Nat) (x : UInt8) (h : k < 4) (hv : v < 2 ^ (8 * k)) :
    bits .or .u32 (v : Int) ((x.toNat : Int) % 4294967296 * 2 ^ (8 * k) % 4294967296) = ((v ||| x.toNat * 2 ^ (8 * k) : Nat) : Int) := by
  have hx := x.toNat_lt
  have hp : 2 ^ (8 * k) ≤ 2 ^ 24 := Nat.pow_le_pow_right (by omega) (by omega)
  have hy : x.toNat * 2 ^ (8 * k) < 4294967296 := by
    have := Nat.mul_le_mul (show x.toNat ≤ 255 by omega) hp
    omega
  have e1 : (x.toNat : Int) % 4294967296 = (x.toNat : Int) := by omega
  have e2 : (x.toNat : Int) * 2 ^ (8 * k) = ((x.toNat * 2 ^ (8 * k) : Nat) : Int) := by rw [Int.natCast_mul, Int.natCast_pow]; rfl
  have e3 : ((x.toNat * 2 ^ (8 * k) : Nat) : Int) % 4294967296 = ((x.toNat * 2 ^ (8 * k) : Nat) : Int) := by
    generalize x.toNat * 2 ^ (8 * k) = y at hy
    omega
  rw [e1, e2, e3]
  exact u32_or_nat v _ (by omega) hy

theorem open_short (A : Option Addr) (n c : Nat) (w : World) (hn : n < 4) :
    Calls Try.prog 13 #[.slice A n c] w fun e w' => e = .returned (.tuple #[.slice none 0 0, .int .i64 3]) ∧ w = w' := by
  go_enter Try.func13, Try.ntmps13
  go_wp2
  go_ret2
  exact ⟨rfl, rfl⟩

/-- what Open answers to at least four bytes -/
def Opened (w : World) (n : Nat) (l : List UInt8) (e : Ending) (w' : World) : Prop :=
  (Cm.word (l.drop (n - 4)) = Cm.sum (l.take (n - 4)) → e = .returned (.tuple #[.slice (some ⟨w.heap.size, 0, none⟩) (n - 4) (n - 4), .int .i64 0]) ∧ Row 5 w' w.heap.size (l.take (n - 4)) ∧ Below w.heap.size w w') ∧
  (Cm.word (l.drop (n - 4)) ≠ Cm.sum (l.take (n - 4)) → e = .returned (.tuple #[.slice none 0 0, .int .i64 4]) ∧ ∃ m, w' = w.drewN m)

set_option maxHeartbeats 400000 in
theorem open_any (A : Option Addr) (n c : Nat) (l : List UInt8) (B : Nat) (w : World) (hs : Bs w B A n l) (hB : B ≤ w.heap.size) (h4 : 4 ≤ n) (hc : n ≤ c) (hn : n ≤ 140737488355328) :
    Calls Try.prog 13 #[.slice A n c] w (Opened w n l) := by
  obtain ⟨b, off, rfl, hbB, hcell⟩ := hs.2 (by omega)
  have HS : Hid (Bs w B (some ⟨b, off, none⟩) n l) := Lib.hid hs
  have HL : Hid (l.length = n) := Lib.hid hs.1
  have HC := Lib.hid hcell
  clear hs hcell
  go_enter Try.func13, Try.ntmps13
  go_wp2
  go_quiet (fail)
  go_wp2
  go_loop [7, 21] (fun t i => ∃ (k v : Nat), k ≤ 4 ∧ i = .int .i64 k ∧ t = .int .u32 v ∧ v < 2 ^ (8 * k) ∧ Hid (Cm.wordTo k (l.drop (n - 4)) = v)) (fun _ i => 4 - (intOf i).toNat)
  case atStart => exact ⟨0, 0, by omega, rfl, rfl, by omega, Lib.hid rfl⟩
  case round =>
    obtain ⟨k, v, hk, rfl, rfl, hv, H⟩ := hrel
    by_cases hlt : k < 4
    · have hkl : n - 4 + k < l.length := by rw [HL.out]; omega
      have e := HC.out (n - 4 + k) hkl
      rw [← Nat.add_assoc] at e
      obtain ⟨x, hx⟩ : ∃ x, x = l[n - 4 + k] := ⟨_, rfl⟩
      rw [← hx] at e
      have hor := u32_word v k x hlt hv
      have HX : Hid ((l.drop (n - 4)).getD k 0 = x) := Lib.hid (by rw [hx, List.getD_eq_getElem?_getD, List.getElem?_drop, List.getElem?_eq_getElem hkl]; rfl)
      have HV : Hid (v ||| x.toNat * 2 ^ (8 * k) = Cm.wordTo (k + 1) (l.drop (n - 4))) := Lib.hid (by rw [← Cm.wordTo_or, H.out, HX.out])
      have hv2 := Cm.wordTo_lt (l.drop (n - 4)) (k + 1)
      rw [← HV.out] at hv2
      clear hx HX hv H hkl
      go_wp2
      go_round
      case rel => exact ⟨k + 1, _, by omega, by go_num, rfl, hv2, Lib.hid HV.out.symm⟩
      case measure => simp [intOf]; omega
    · obtain rfl : k = 4 := by omega
      have hv4 : v < 2 ^ 32 := hv
      have HW : Hid (Cm.word (l.drop (n - 4)) = v) := Lib.hid (by rw [← Cm.wordTo_four]; exact H.out)
      clear H hv
      have hfr := (HS.out.front (k := n - 4) (by omega)).drewN nq
      have hsl := Cm.sum_lt (l.take (n - 4))
      obtain ⟨s, hs⟩ : ∃ s, s = Cm.sum (l.take (n - 4)) := ⟨_, rfl⟩
      have csum := fun c => sum_any (some ⟨b, off, none⟩) (n - 4) c (l.take (n - 4)) B (w.drewN nq) hfr (by omega)
      rw [← hs] at csum hsl
      have HSum := Lib.hid hs
      clear hs
      by_cases hvs : v = s
      · subst hvs
        have ht : ((v : Int) != (v : Int)) = false := by simp
        have hmk := make_bytes (n - 4) (by omega)
        rw [show ((n - 4 : Nat) : Int) = (n : Int) - 4 by omega] at hmk
        obtain ⟨Z, hZ⟩ : ∃ Z, Z = List.replicate (n - 4) (0 : UInt8) := ⟨_, rfl⟩
        rw [← hZ] at hmk
        have HZ : Hid (Z.length = n - 4) := Lib.hid (by rw [hZ]; simp)
        clear hZ
        obtain ⟨m, hm⟩ : ∃ m, m = l.take (n - 4) := ⟨_, rfl⟩
        have HM := Lib.hid hm
        have hf2 := HS.out.front (k := n - 4) (by omega)
        rw [← hm] at hf2
        have HML : Hid (m.length = n - 4) := Lib.hid hf2.1
        have HN : Hid ((vals m).length = Nat.min (n - 4) (n - 4)) := Lib.hid (by rw [vals_length, HML.out]; exact (Nat.min_self _).symm)
        have HF : Hid (0 + (vals m).length ≤ (vals Z).length) := Lib.hid (by rw [vals_length, vals_length, HML.out, HZ.out]; omega)
        have HB := Lib.hid ((hf2.drewN nq).alloc (w := w.drewN nq) hB (.cells (vals Z).toArray 5))
        clear hf2 hm
        go_wp2_with (first
          | (go_at_call 8; refine (csum _).mono ?_; rintro e w' ⟨rfl, rfl⟩)
          | (refine wpList_copy_splice (o := ⟨some 43, _, _, _, _, _⟩) rfl (.tmp 41) (.tmp 42) 22 22 rfl 5 Try.underlying22 u8_one (some ⟨w.heap.size, 0, none⟩) (some ⟨b, off, none⟩) (n - 4) (n - 4) (n - 4) c rfl rfl w.heap.size 0 (vals Z) 5 (Row.new (w.drewN nq) _ Z) (vals m) HN.out (HB.out.copies _) HF.out (vals_one m) w.heap.size w ((below_drewN (Below.refl _ w) nq).alloc (Nat.le_refl _) _) (Nat.le_refl _) ?_; intro w2 HG hb2))
        go_ret2
        refine ⟨fun _ => ⟨rfl, ?_, hb2⟩, fun h => absurd ?_ h⟩
        · have hG := HG.out
          rw [splice_vals, List.drop_of_length_le (by rw [HML.out, HZ.out]; omega), List.append_nil] at hG
          rw [← HM.out]
          exact hG
        · rw [HW.out, HSum.out]
      · have ht : ((v : Int) != (s : Int)) = true := by simp; omega
        have HN := Lib.hid hvs
        clear hvs
        go_wp2_with (go_at_call 8; refine (csum _).mono ?_; rintro e w' ⟨rfl, rfl⟩)
        go_ret2
        refine ⟨fun h => absurd ?_ HN.out, fun _ => ⟨rfl, nq, rfl⟩⟩
        rw [← HW.out, HSum.out]
        exact h
end Go.Proofs.Ytlkejbfogmadnaa
