/-
  Plain mathematics of numbers that are there: those of a list, rising; a row of numbers in runs.
-/
import Derived.WalkKit
namespace Go.Proofs.YtcmhodimkpkmbaaDoor

/-- a run: from, to, whether it is there -/
abbrev Bm.Run := Int × Int × Bool
namespace Bm
/-- of the first k numbers those of the list, rising -/
def nat (l : List Int) (k : Nat) : List Nat := (List.range k).filter fun i => decide ((i : Int) ∈ l)
def srt (l : List Int) (k : Nat) : List Int := (nat l k).map Int.ofNat
theorem nat_succ (l : List Int) (k : Nat) : nat l (k + 1) = nat l k ++ (if (k : Int) ∈ l then [k] else []) := by
  unfold nat
  rw [List.range_succ, List.filter_append]
  congr 1
  by_cases h : (k : Int) ∈ l <;> simp [h]
theorem srt_zero (l : List Int) : srt l 0 = [] := rfl
theorem srt_yes {l : List Int} {k : Nat} (h : (k : Int) ∈ l) : srt l (k + 1) = srt l k ++ [(k : Int)] := by
  unfold srt
  rw [nat_succ, if_pos h, List.map_append]
  rfl
theorem srt_no {l : List Int} {k : Nat} (h : (k : Int) ∉ l) : srt l (k + 1) = srt l k := by
  unfold srt
  rw [nat_succ, if_neg h, List.append_nil]
/-- as many as a list has, without any twice, out of it -/
theorem length_le : ∀ (m : List Nat) (l : List Int), m.Nodup → (∀ x ∈ m, (x : Int) ∈ l) → m.length ≤ l.length
  | [], _, _, _ => Nat.zero_le _
  | a :: m, l, hd, hs => by
    obtain ⟨h1, h2⟩ := List.nodup_cons.1 hd
    have ha := hs a (List.mem_cons_self ..)
    have hr : ∀ x ∈ m, (x : Int) ∈ l.erase (a : Int) := fun x hx => by
      refine (List.mem_erase_of_ne ?_).2 (hs x (List.mem_cons_of_mem _ hx))
      intro e
      have : x = a := by omega
      subst this
      exact h1 hx
    have h3 := length_le m (l.erase (a : Int)) h2 hr
    rw [List.length_erase_of_mem ha] at h3
    have := List.length_pos_of_mem ha
    simp only [List.length_cons]
    omega
theorem nat_nodup (l : List Int) (k : Nat) : (nat l k).Nodup := List.Pairwise.filter _ List.nodup_range
theorem nat_sub (l : List Int) (k : Nat) : ∀ x ∈ nat l k, (x : Int) ∈ l := fun x hx => by
  have := (List.mem_filter.1 hx).2
  exact of_decide_eq_true this
theorem nat_le (l : List Int) (k : Nat) : (nat l k).length ≤ l.length := length_le _ _ (nat_nodup l k) (nat_sub l k)
theorem srt_length (l : List Int) (k : Nat) : (srt l k).length ≤ l.length := by
  unfold srt
  rw [List.length_map]
  exact nat_le l k
/-- once there are as many as the list has, there are no more -/
theorem srt_full {l : List Int} {k : Nat} (h : l.length ≤ (srt l k).length) : ∀ (m : Nat), k ≤ m → srt l m = srt l k
  | 0, hm => by obtain rfl : k = 0 := by omega
                rfl
  | m + 1, hm => by
    by_cases e : k = m + 1
    · rw [e]
    · have ih := srt_full h m (by omega)
      by_cases hi : (m : Int) ∈ l
      · have h1 := srt_length l (m + 1)
        rw [srt_yes hi, ih, List.length_append] at h1
        simp at h1
        omega
      · rw [srt_no hi, ih]
theorem mem_srt {l : List Int} {k : Nat} {x : Int} : x ∈ srt l k ↔ x ∈ l ∧ 0 ≤ x ∧ x < k := by
  unfold srt nat
  rw [List.mem_map]
  constructor
  · rintro ⟨i, hi, rfl⟩
    obtain ⟨h1, h2⟩ := List.mem_filter.1 hi
    have := List.mem_range.1 h1
    refine ⟨of_decide_eq_true h2, ?_, ?_⟩
    · show (0 : Int) ≤ (i : Int)
      omega
    · show (i : Int) < k
      omega
  · rintro ⟨h1, h2, h3⟩
    refine ⟨x.toNat, List.mem_filter.2 ⟨List.mem_range.2 (by omega), decide_eq_true ?_⟩, ?_⟩
    · rw [Int.toNat_of_nonneg h2]; exact h1
    · exact Int.toNat_of_nonneg h2
/-- one number more behind some runs -/
def push (L : List Run) (i : Int) (q : Bool) : List Run :=
  match L.getLast? with
  | some r => if r.2.1 = i ∧ r.2.2 = q then L.dropLast ++ [(r.1, i + 1, r.2.2)] else L ++ [(i, i + 1, q)]
  | none => L ++ [(i, i + 1, q)]
theorem push_nil (i : Int) (q : Bool) : push [] i q = [(i, i + 1, q)] := rfl
theorem push_more {L : List Run} {i : Int} {q : Bool} (k : Nat) (hk : k + 1 = L.length) (h1 : (L[k]'(by omega)).2.1 = i) (h2 : (L[k]'(by omega)).2.2 = q) : push L i q = L.set k ((L[k]'(by omega)).1, i + 1, (L[k]'(by omega)).2.2) := by
  have hl : L.getLast? = some (L[k]'(by omega)) := by
    rw [List.getLast?_eq_getElem?, show L.length - 1 = k by omega, List.getElem?_eq_getElem (by omega)]
  unfold push
  rw [hl]
  simp only [h1, h2, and_self, if_true]
  apply List.ext_getElem?
  intro j
  rw [List.getElem?_set]
  by_cases e : k = j
  · subst e
    rw [if_pos rfl, if_pos (by omega), List.getElem?_append_right (by simp; omega)]
    simp [← hk]
  · rw [if_neg e]
    by_cases hj : j < k
    · rw [List.getElem?_append_left (by simp; omega), List.getElem?_dropLast, if_pos (by omega)]
    · rw [List.getElem?_eq_none (by simp; omega), List.getElem?_eq_none (by omega)]
theorem push_new {L : List Run} {i : Int} {q : Bool} (k : Nat) (hk : k + 1 = L.length) (h : ¬ ((L[k]'(by omega)).2.1 = i ∧ (L[k]'(by omega)).2.2 = q)) : push L i q = L ++ [(i, i + 1, q)] := by
  have hl : L.getLast? = some (L[k]'(by omega)) := by
    rw [List.getLast?_eq_getElem?, show L.length - 1 = k by omega, List.getElem?_eq_getElem (by omega)]
  unfold push
  rw [hl]
  simp only [if_neg h]
/-- numbers one by one, in runs -/
def runs (have_ : List Int) (m : List Int) : List Run := m.foldl (fun L i => push L i (decide (i ∈ have_))) []
theorem runs_snoc (have_ m : List Int) (i : Int) : runs have_ (m ++ [i]) = push (runs have_ m) i (decide (i ∈ have_)) := by simp [runs]
theorem push_length (L : List Run) (i : Int) (q : Bool) : (push L i q).length ≤ L.length + 1 := by
  unfold push
  split
  · split
    · simp
    · simp
  · simp
theorem runs_length (have_ : List Int) (m : List Int) : (runs have_ m).length ≤ m.length := by
  have : ∀ (m : List Int) (L : List Run), (m.foldl (fun L i => push L i (decide (i ∈ have_))) L).length ≤ L.length + m.length := by
    intro m
    induction m with
    | nil => intro L; simp
    | cons a m ih =>
      intro L
      have h1 := ih (push L a (decide (a ∈ have_)))
      have h2 := push_length L a (decide (a ∈ have_))
      simp only [List.foldl_cons, List.length_cons]
      omega
  simpa [runs] using this m []
end Bm
end Go.Proofs.YtcmhodimkpkmbaaDoor
