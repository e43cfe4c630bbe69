/-
  The walk of the statement on bytes in pages, by the contracts.
-/
import Derived.Test.YtkbikmejpdcgnaaRRRFrameAwake
import Derived.WalkKit
import Derived.ProofKit
import Derived.LoopTactic
import Derived.IntWalk
namespace Go.Proofs.YtkbikmejpdcgnaaRRR
open Go.ChangeShapes Go.WideShapes Go.ChangeAt Go.RowKit

/-- a page of bytes, the last one filled up -/
def Fm.page (l : List UInt8) (s i : Nat) : List UInt8 := (List.range s).map fun k => l.getD (i * s + k) 255
theorem Fm.page_length (l : List UInt8) (s i : Nat) : (Fm.page l s i).length = s := by simp [Fm.page]
theorem Fm.page_get (l : List UInt8) (s i k : Nat) (h : k < (Fm.page l s i).length) : (Fm.page l s i)[k] = l.getD (i * s + k) 255 := by simp [Fm.page]
/-- a row of pages lies in a world -/
def PadsIn (w : World) (A : Option Addr) (K s : Nat) (l : List UInt8) : Prop :=
  ∀ i, i < K → ∃ b off, A = some ⟨b, off, none⟩ ∧ ∃ Ai ci, w.cell? ⟨b, off + i, none⟩ = some (.slice Ai s ci) ∧ Bs w w.heap.size Ai s (Fm.page l s i)
def Pads13 : Prop := ∀ (A : Option Addr) (n c : Nat) (l : List UInt8) (B : Nat) (w : World) (s : Nat), Bs w B A n l → B ≤ w.heap.size → n ≤ c → n ≤ 3000 → 1 ≤ s → s ≤ 4096 → Calls Try.prog 5 #[.slice A n c, .int .i64 (s : Int)] w fun e w' =>
  ∃ A' c', e = .returned (.slice A' ((n + s - 1) / s) c') ∧ PadsIn w' A' ((n + s - 1) / s) s l ∧ Below w.heap.size w w'
def PadsNone13 : Prop := ∀ (A : Option Addr) (n c : Nat) (l : List UInt8) (B : Nat) (w : World) (size : Int), Bs w B A n l → B ≤ w.heap.size → n ≤ c → n ≤ 3000 → (size < 1 ∨ 4096 < size) → Calls Try.prog 5 #[.slice A n c, .int .i64 size] w fun e w' =>
  ∃ A' c', e = .returned (.slice A' 0 c') ∧ Below w.heap.size w w'
section
variable {A : Option Addr} {n c : Nat} {l : List UInt8} {B : Nat} {w : World}
theorem framePads_long (haw : Awake13) (size : Int) (hn : 3000 < n) :
    Calls Try.prog 3 #[.slice A n c, .int .i64 size] w fun e w' => e = .returned (.bool true) ∧ Below w.heap.size w w' := by
  have ha := haw w
  go_enter Try.func3, Try.ntmps3
  go_wp2_with (go_at_call 4; (with_reducible refine ha.mono ?_); rintro e w1 ⟨rfl, hb1⟩)
  go_ret
  exact ⟨rfl, hb1⟩
theorem framePads_none (haw : Awake13) (hpad : PadsNone13) (hs : Bs w B A n l) (hB : B ≤ w.heap.size) (hnc : n ≤ c) (size : Int) (hn : n ≤ 3000) (hz : size < 1 ∨ 4096 < size) :
    Calls Try.prog 3 #[.slice A n c, .int .i64 size] w fun e w' => e = .returned (.bool true) ∧ Below w.heap.size w w' := by
  have ha := haw w
  have cp := fun W (h : Below w.heap.size w W) => hpad A n c l B W size (hs.below (h.mono hB)) (Nat.le_trans hB h.size) hnc hn hz
  have CP := Lib.hid cp
  clear cp hs
  rcases (by omega : size < 1 ∨ (1 ≤ size ∧ 4096 < size)) with hz | ⟨hz1, hz⟩
  all_goals
    go_enter Try.func3, Try.ntmps3
    go_wp2_with (first
      | (go_at_call 4; (with_reducible refine ha.mono ?_); rintro e w1 ⟨rfl, hb1⟩; have HB1 := Lib.hid hb1; have cp := CP.out w1 hb1; clear hb1)
      | (go_at_call 5; (with_reducible refine cp.mono ?_); rintro e w2 ⟨A2, k2, rfl, hb2⟩; have HB2 := Lib.hid (HB1.out.trans (hb2.mono HB1.out.size)); clear hb2))
    go_ret
    exact ⟨rfl, HB2.out⟩
theorem framePads_main (haw : Awake13) (hpad : Pads13) (hs : Bs w B A n l) (hB : B ≤ w.heap.size) (hnc : n ≤ c) (s : Nat) (hn : n ≤ 3000) (h1 : 1 ≤ s) (h2 : s ≤ 4096) :
    Calls Try.prog 3 #[.slice A n c, .int .i64 (s : Int)] w fun e w' => e = .returned (.bool true) ∧ Below w.heap.size w w' := by
  have ha := haw w
  have hw1 : IntKind.i64.wrap ((n : Int) + (s : Int)) = (n : Int) + (s : Int) := IntWalk.i64_in _ (by omega)
  have hw2 : IntKind.i64.wrap ((n : Int) + (s : Int) - 1) = (n : Int) + (s : Int) - 1 := IntWalk.i64_in _ (by omega)
  have HS := Lib.hid (hs.mono hB)
  have cp := fun W (h : Below w.heap.size w W) => hpad A n c l B W s (hs.below (h.mono hB)) (Nat.le_trans hB h.size) hnc hn h1 h2
  obtain ⟨K, hK⟩ : ∃ K, K = (n + s - 1) / s := ⟨_, rfl⟩
  rw [← hK] at cp
  have CP := Lib.hid cp
  have hd : ((n : Int) + (s : Int) - 1).tdiv (s : Int) = (K : Int) := by
    rw [hK, show (n : Int) + (s : Int) - 1 = ((n + s - 1 : Nat) : Int) by omega, Int.ofNat_tdiv]
  have HKs : Hid (∀ i, i < K → i * s < n) := Lib.hid (by
    intro i hi
    rw [hK, Nat.lt_iff_add_one_le, Nat.le_div_iff_mul_le (by omega), Nat.succ_mul] at hi
    omega)
  have hKb : K ≤ 7096 := by
    rw [hK]
    exact Nat.le_trans (Nat.div_le_self _ _) (by omega)
  have hw3 : wrap64 (K : Int) = (K : Int) := IntWalk.wrap64_in (K : Int) (by omega)
  have hKK : ((K : Int) != (K : Int)) = false := by simp
  clear cp hs hK
  go_enter Try.func3, Try.ntmps3
  go_wp2_with (first
    | (go_at_call 4; (with_reducible refine ha.mono ?_); rintro e w1 ⟨rfl, hb1⟩; have HB1 := Lib.hid hb1; have cp := CP.out w1 hb1; clear hb1)
    | (go_at_call 5; (with_reducible refine cp.mono ?_); rintro e w2 ⟨A2, k2, rfl, hp2, hb2⟩; have HP := Lib.hid hp2; have HB2 := Lib.hid (HB1.out.trans (hb2.mono HB1.out.size)); clear hb2 hp2))
  go_loopw [6, 7, 8, 9, 10, 40] (fun _ _ _ _ _ i wr => ∃ k : Nat, k ≤ K ∧ i = .int .i64 k ∧ wr = w2) (fun _ _ _ _ _ i _ => K - (intOf i).toNat)
  case atStart => exact ⟨0, Nat.zero_le _, rfl, rfl⟩
  case round =>
    obtain ⟨i, hi, rfl, rfl⟩ := hrel
    by_cases hlt : i < K
    · obtain ⟨b, off, rfl, Ai, ci, hcell, hbs⟩ := HP.out i hlt
      obtain ⟨a, ha2⟩ : ∃ a, a = i * s := ⟨_, rfl⟩
      have han : a < n := by rw [ha2]; exact HKs.out i hlt
      have hia : (i : Int) * (s : Int) = (a : Int) := by rw [ha2, Int.natCast_mul]
      have hwa : IntKind.i64.wrap ((i : Int) * (s : Int)) = (a : Int) := by
        rw [hia]
        exact IntWalk.i64_in _ (by omega)
      have HBS := Lib.hid hbs
      have HA := Lib.hid ha2
      clear hbs ha2
      clear hia
      go_wp2
      go_loopw [8, 9, 10, 51] (fun _ _ _ i2 wr2 => ∃ k : Nat, k ≤ s ∧ i2 = .int .i64 k ∧ wr2 = wr) (fun _ _ _ i2 _ => s - (intOf i2).toNat)
      case atStart => exact ⟨0, Nat.zero_le _, rfl, rfl⟩
      case round =>
        obtain ⟨k, hk, rfl, rfl⟩ := hrel
        by_cases hks : k < s
        · obtain ⟨bi, offi, rfl, -, hci⟩ := HBS.out.2 (by omega)
          have hkl : k < (Fm.page l s i).length := by rw [Fm.page_length]; exact hks
          have hcx := hci k hkl
          rw [Fm.page_get, ← HA.out] at hcx
          obtain ⟨p, hp⟩ : ∃ p, p = a + k := ⟨_, rfl⟩
          rw [← hp] at hcx
          have hwp : IntKind.i64.wrap ((a : Int) + (k : Int)) = (p : Int) := by rw [hp]; exact IntWalk.i64_in _ (by omega)
          have HBS2 := Lib.hid (HS.out.below HB2.out)
          clear hp hci HP hcell
          by_cases hpn : p < n
          · have hpl : p < l.length := by rw [HS.out.1]; exact hpn
            obtain ⟨b0, off0, rfl, -, hc0⟩ := HBS2.out.2 (by omega)
            have hcb := hc0 p hpl
            rw [List.getD_eq_getElem?_getD, List.getElem?_eq_getElem hpl, Option.getD_some] at hcx
            obtain ⟨y, hy⟩ : ∃ y, y = l[p] := ⟨_, rfl⟩
            rw [← hy] at hcx hcb
            have hyy : ((y.toNat : Int) != (y.toNat : Int)) = false := by simp
            clear hc0 hy
            go_wp2
            go_roundw
            case rel => exact ⟨k + 1, by omega, by go_num, by trivial⟩
            case measure => simp [intOf]; omega
          · have hpl : l.length ≤ p := by rw [HS.out.1]; omega
            rw [List.getD_eq_getElem?_getD, List.getElem?_eq_none hpl, Option.getD_none] at hcx
            replace hcx : wr.cell? ⟨bi, offi + k, none⟩ = some (.int .u8 255) := hcx
            go_wp2
            go_roundw
            case rel => exact ⟨k + 1, by omega, by go_num, by trivial⟩
            case measure => simp [intOf]; omega
        · obtain rfl : k = s := by omega
          go_wp2
          go_roundw
          case rel => exact ⟨i + 1, by omega, by go_num, by trivial⟩
          case measure => simp [intOf]; omega
    · obtain rfl : i = K := by omega
      go_wp2
      go_ret
      exact ⟨rfl, HB2.out⟩
/-- for every argument -/
theorem framePads_walk (haw : Awake13) (hpad : Pads13) (hnone : PadsNone13) (hs : Bs w B A n l) (hB : B ≤ w.heap.size) (hnc : n ≤ c) (size : Int) :
    Calls Try.prog 3 #[.slice A n c, .int .i64 size] w fun e w' => e = .returned (.bool true) ∧ Below w.heap.size w w' := by
  by_cases hn : 3000 < n
  · exact framePads_long haw size hn
  by_cases hz : size < 1 ∨ 4096 < size
  · exact framePads_none haw hnone hs hB hnc size (by omega) hz
  obtain ⟨s, rfl⟩ : ∃ s : Nat, size = (s : Int) := ⟨size.toNat, by omega⟩
  exact framePads_main haw hpad hs hB hnc s (by omega) (by omega) (by omega)
end
end Go.Proofs.YtkbikmejpdcgnaaRRR
