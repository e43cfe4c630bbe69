/-
  Plain mathematics: runs laid behind runs, as the program's join does it.
-/
import Derived.Test.YtgfafcolfcdkdaaDoorBitMath
import Derived.Test.YtgfafcolfcdkdaaDoorBitRunsW
namespace Go.Proofs.YtgfafcolfcdkdaaDoor
namespace Bm
/-- a run laid behind runs: with the last one as one where they are alike -/
def joinM (L : List Run) (f t : Int) (q : Bool) : List Run :=
  if t ≤ f then L
  else match L.getLast? with
    | some r => if r.2.2 = q then L.dropLast ++ [(r.1, t, r.2.2)] else L ++ [(f, t, q)]
    | none => L ++ [(f, t, q)]
theorem joinM_none {L : List Run} {f t : Int} {q : Bool} (h : t ≤ f) : joinM L f t q = L := by unfold joinM; rw [if_pos h]
theorem joinM_one {L : List Run} {f : Int} {q : Bool} (h : ∀ r, L.getLast? = some r → r.2.1 = f) : joinM L f (f + 1) q = push L f q := by
  unfold joinM push
  rw [if_neg (by omega)]
  cases hl : L.getLast? with
  | none => rfl
  | some r =>
    have hr := h r hl
    simp only [hr, true_and]
theorem joinM_step {L : List Run} {f t : Int} {q : Bool} (h : f < t) : joinM L f (t + 1) q = push (joinM L f t q) t q := by
  unfold joinM
  rw [if_neg (by omega), if_neg (by omega)]
  cases hl : L.getLast? with
  | none =>
    simp only
    unfold push
    simp
  | some r =>
    simp only
    by_cases hq : r.2.2 = q
    · rw [if_pos hq, if_pos hq]
      unfold push
      simp [hq]
    · rw [if_neg hq, if_neg hq]
      unfold push
      simp
theorem push_last (L : List Run) (i : Int) (q : Bool) : ∀ r, (push L i q).getLast? = some r → r.2.1 = i + 1 := by
  intro r hr
  unfold push at hr
  split at hr
  · split at hr
    · simp at hr
      rw [← hr]
    · simp at hr
      rw [← hr]
  · simp at hr
    rw [← hr]
/-- the last of some numbers' runs ends where they end -/
theorem runs_last (l : List Int) (lo : Int) : ∀ n r, (runs l (rng lo n)).getLast? = some r → r.2.1 = lo + n
  | 0, r, h => by simp [runs, rng] at h
  | n + 1, r, h => by
    rw [rng_succ, runs_snoc] at h
    have := push_last _ _ _ r h
    omega
/-- numbers that are all there, or all not there, in one run -/
theorem join_runs (l : List Int) (lo : Int) (q : Bool) (n : Nat) : ∀ d : Nat, (∀ i, lo + n ≤ i → i < lo + n + d → decide (i ∈ l) = q) → joinM (runs l (rng lo n)) (lo + n) (lo + n + d) q = runs l (rng lo (n + d))
  | 0, _ => by rw [joinM_none (by omega)]; rfl
  | d + 1, h => by
    have e : lo + n + ((d + 1 : Nat) : Int) = (lo + n + d) + 1 := by omega
    rw [e, show n + (d + 1) = (n + d) + 1 by omega, rng_succ, runs_snoc, h (lo + (n + d : Nat)) (by omega) (by omega)]
    rcases Nat.eq_zero_or_pos d with h0 | h0
    · subst h0
      rw [show lo + (n : Int) + ((0 : Nat) : Int) = lo + n by omega, joinM_one (fun r hr => runs_last l lo n r hr)]
      rfl
    · rw [joinM_step (by omega), join_runs l lo q n d (fun i h1 h2 => h i h1 (by omega)), show lo + (n : Int) + (d : Int) = lo + ((n + d : Nat) : Int) by omega]
theorem joinM_more {L : List Run} {f t : Int} {q : Bool} (h : f < t) (k : Nat) (hk : k + 1 = L.length) (h2 : (L[k]'(by omega)).2.2 = q) : joinM L f t q = L.set k ((L[k]'(by omega)).1, t, (L[k]'(by omega)).2.2) := by
  have hl : L.getLast? = some (L[k]'(by omega)) := by
    rw [List.getLast?_eq_getElem?, show L.length - 1 = k by omega, List.getElem?_eq_getElem (by omega)]
  unfold joinM
  rw [if_neg (by omega), hl]
  simp only [h2, if_true]
  apply List.ext_getElem?
  intro j
  rw [List.getElem?_set]
  by_cases e : k = j
  · subst e
    rw [if_pos rfl, if_pos (by omega), List.getElem?_append_right (by simp; omega)]
    simp [← hk]
  · rw [if_neg e]
    by_cases hj : j < k
    · rw [List.getElem?_append_left (by simp; omega), List.getElem?_dropLast, if_pos (by omega)]
    · rw [List.getElem?_eq_none (by simp; omega), List.getElem?_eq_none (by omega)]
theorem joinM_new {L : List Run} {f t : Int} {q : Bool} (h : f < t) (k : Nat) (hk : k + 1 = L.length) (h2 : (L[k]'(by omega)).2.2 ≠ q) : joinM L f t q = L ++ [(f, t, q)] := by
  have hl : L.getLast? = some (L[k]'(by omega)) := by
    rw [List.getLast?_eq_getElem?, show L.length - 1 = k by omega, List.getElem?_eq_getElem (by omega)]
  unfold joinM
  rw [if_neg (by omega), hl]
  simp only [if_neg h2]
theorem joinM_nil {f t : Int} {q : Bool} (h : f < t) : joinM [] f t q = [(f, t, q)] := by
  unfold joinM
  rw [if_neg (by omega)]
  rfl
theorem joinM_length (L : List Run) (f t : Int) (q : Bool) : (joinM L f t q).length ≤ L.length + 1 := by
  unfold joinM
  split
  · omega
  · split
    · split
      · simp
      · simp
    · simp
end Bm
end Go.Proofs.YtgfafcolfcdkdaaDoor
