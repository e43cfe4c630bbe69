/-
  Plain mathematics: the numbers of a set, rising; those of a list.
-/
import Derived.Test.YtcmhodimkpkmbaaDoorBitMath
import Derived.Test.YtcmhodimkpkmbaaDoorBitOnes
namespace Go.Proofs.YtcmhodimkpkmbaaDoor
namespace Bm
/-- of the first k numbers those of a set, rising -/
def lst (s : Nat → Bool) (k : Nat) : List Int := ((List.range k).filter s).map Int.ofNat
theorem lst_yes {s : Nat → Bool} {k : Nat} (h : s k = true) : lst s (k + 1) = lst s k ++ [(k : Int)] := by
  unfold lst
  rw [List.range_succ, List.filter_append, List.map_append]
  simp [h]
theorem lst_no {s : Nat → Bool} {k : Nat} (h : s k = false) : lst s (k + 1) = lst s k := by
  unfold lst
  rw [List.range_succ, List.filter_append, List.map_append]
  simp [h]
theorem lst_length (s : Nat → Bool) : ∀ k, (lst s k).length = cnt s k
  | 0 => rfl
  | k + 1 => by
    cases h : s k
    · rw [lst_no h, lst_length s k, cnt, h]; rfl
    · rw [lst_yes h, List.length_append, lst_length s k, cnt, h]; rfl
theorem lst_append (s : Nat → Bool) (a : Nat) : ∀ b, ∃ m, lst s (a + b) = lst s a ++ m
  | 0 => ⟨[], by simp⟩
  | b + 1 => by
    obtain ⟨m, hm⟩ := lst_append s a b
    rw [show a + (b + 1) = (a + b) + 1 by omega]
    cases h : s (a + b)
    · exact ⟨m, by rw [lst_no h, hm]⟩
    · exact ⟨m ++ [((a + b : Nat) : Int)], by rw [lst_yes h, hm, List.append_assoc]⟩
/-- the number behind so many others -/
theorem lst_nth {s : Nat → Bool} {x K : Nat} (h : s x = true) (hK : x < K) : (lst s K)[cnt s x]? = some (x : Int) := by
  obtain ⟨m, hm⟩ := lst_append s (x + 1) (K - (x + 1))
  rw [show x + 1 + (K - (x + 1)) = K by omega, lst_yes h, List.append_assoc] at hm
  rw [hm, List.getElem?_append_right (by rw [lst_length]; exact Nat.le_refl _), lst_length, Nat.sub_self]
  rfl
theorem cnt_lt {s : Nat → Bool} {x K : Nat} (h : s x = true) (hK : x < K) : cnt s x < cnt s K := by
  have := lst_nth h hK
  rw [← lst_length s K]
  exact (List.getElem?_eq_some_iff.1 this).1
/-- none between -/
theorem cnt_none {s : Nat → Bool} {x : Nat} : ∀ n, (∀ y, x ≤ y → y < x + n → s y = false) → cnt s (x + n) = cnt s x
  | 0, _ => rfl
  | n + 1, h => by
    rw [show x + (n + 1) = (x + n) + 1 by omega, cnt, h (x + n) (by omega) (by omega), cnt_none n (fun y h1 h2 => h y h1 (by omega))]
    rfl
theorem cnt_word (s : Nat → Bool) (k : Nat) : cnt s (64 * (k + 1)) = cnt s (64 * k) + cnt (word s k).testBit 64 := by
  rw [show 64 * (k + 1) = 64 * k + 64 by omega, cnt_add]
  congr 1
  refine cnt_ext _ fun j hj => ?_
  rw [testBit_word, decide_eq_true hj, Bool.true_and]
theorem lst_srt {s : Nat → Bool} {l : List Int} (h : ∀ x, s x = (decide (x ≤ 4096) && decide ((x : Int) ∈ l))) : lst s 4160 = srt l 4097 := by
  have key : ∀ k, lst s k = srt l (min k 4097) := by
    intro k
    induction k with
    | zero => rfl
    | succ k ih =>
      have hk := h k
      by_cases h1 : k ≤ 4096
      · rw [show min (k + 1) 4097 = k + 1 by omega]
        rw [show min k 4097 = k by omega] at ih
        rw [decide_eq_true h1, Bool.true_and] at hk
        by_cases h2 : (k : Int) ∈ l
        · rw [decide_eq_true h2] at hk
          rw [lst_yes hk, srt_yes h2, ih]
        · rw [decide_eq_false h2] at hk
          rw [lst_no hk, srt_no h2, ih]
      · rw [decide_eq_false h1, Bool.false_and] at hk
        rw [lst_no hk, ih, show min (k + 1) 4097 = min k 4097 by omega]
  exact key 4160
end Bm
end Go.Proofs.YtcmhodimkpkmbaaDoor
