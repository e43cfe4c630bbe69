/-
  Plain mathematics: a set's numbers, listed, are the slices' numbers; their places.
-/
import Derived.Test.YtcmhodimkpkmbaaDoorIxSlices
import Derived.Test.YtcmhodimkpkmbaaDoorIxMEqual
import Derived.Test.YtcmhodimkpkmbaaDoorBitAll
namespace Go.Proofs.YtcmhodimkpkmbaaDoor
open Go.ChangeShapes Go.WideShapes Go.ChangeAt Go.RowKit
set_option maxRecDepth 100000

theorem rising_ext : ∀ (l1 l2 : List Int), l1.Pairwise (· < ·) → l2.Pairwise (· < ·) → (∀ x, x ∈ l1 ↔ x ∈ l2) → l1 = l2
  | [], [], _, _, _ => rfl
  | [], x :: l, _, _, h => absurd ((h x).2 (List.mem_cons_self ..)) (by simp)
  | x :: l, [], _, _, h => absurd ((h x).1 (List.mem_cons_self ..)) (by simp)
  | x :: l, y :: m, h1, h2, h => by
    obtain ⟨a1, a2⟩ := List.pairwise_cons.1 h1
    obtain ⟨b1, b2⟩ := List.pairwise_cons.1 h2
    have e : x = y := by
      rcases List.mem_cons.1 ((h x).1 (List.mem_cons_self ..)) with h3 | h3
      · exact h3
      · rcases List.mem_cons.1 ((h y).2 (List.mem_cons_self ..)) with h4 | h4
        · exact h4.symm
        · have := a1 _ h4
          have := b1 _ h3
          omega
    subst e
    rw [rising_ext l m a2 b2 fun z => ⟨fun hz => by
      rcases List.mem_cons.1 ((h z).1 (List.mem_cons_of_mem _ hz)) with h3 | h3
      · have := a1 _ hz; omega
      · exact h3, fun hz => by
      rcases List.mem_cons.1 ((h z).2 (List.mem_cons_of_mem _ hz)) with h3 | h3
      · have := b1 _ hz; omega
      · exact h3⟩]
theorem lst_rise (s : Nat → Bool) : ∀ n, (Bm.lst s n).Pairwise (· < ·) ∧ ∀ x ∈ Bm.lst s n, x < (n : Int)
  | 0 => by
    have : Bm.lst s 0 = [] := rfl
    rw [this]
    exact ⟨List.Pairwise.nil, by simp⟩
  | n + 1 => by
    obtain ⟨h1, h2⟩ := lst_rise s n
    cases h : s n
    · rw [Bm.lst_no h]
      exact ⟨h1, fun x hx => by have := h2 x hx; omega⟩
    · rw [Bm.lst_yes h]
      refine ⟨List.pairwise_append.2 ⟨h1, List.pairwise_singleton .., fun x hx y hy => ?_⟩, fun x hx => ?_⟩
      · have := h2 x hx
        simp at hy
        omega
      · rcases List.mem_append.1 hx with hx | hx
        · have := h2 x hx; omega
        · simp at hx; omega
theorem lst_mem (s : Nat → Bool) : ∀ n (x : Int), x ∈ Bm.lst s n ↔ ∃ k : Nat, k < n ∧ s k = true ∧ x = (k : Int)
  | 0, x => by
    have : Bm.lst s 0 = [] := rfl
    rw [this]
    simp
  | n + 1, x => by
    cases h : s n
    · rw [Bm.lst_no h, lst_mem s n x]
      constructor
      · rintro ⟨k, h1, h2⟩
        exact ⟨k, by omega, h2⟩
      · rintro ⟨k, h1, h2, h3⟩
        rcases Nat.lt_or_ge k n with h4 | h4
        · exact ⟨k, h4, h2, h3⟩
        · have e : k = n := by omega
          rw [e, h] at h2
          cases h2
    · rw [Bm.lst_yes h, List.mem_append, lst_mem s n x]
      constructor
      · rintro (⟨k, h1, h2⟩ | h1)
        · exact ⟨k, by omega, h2⟩
        · simp at h1
          exact ⟨n, by omega, h, h1⟩
      · rintro ⟨k, h1, h2, h3⟩
        by_cases e : k = n
        · right
          simp [h3, e]
        · exact .inl ⟨k, by omega, h2, h3⟩
theorem lst_keys {s : Ix.Sl} (h : Ix.Ok1 s) : Bm.lst (keysOf s.sl) 4160 = s.sl.map (·.1) := by
  refine rising_ext _ _ (lst_rise _ _).1 ?_ fun x => ?_
  · rw [List.pairwise_map]
    exact h.rise
  · rw [lst_mem]
    unfold keysOf
    constructor
    · rintro ⟨k, _, h2, rfl⟩
      obtain ⟨z, hz, e⟩ := List.any_eq_true.1 h2
      exact List.mem_map.2 ⟨z, hz, by simpa using e⟩
    · intro hx
      obtain ⟨z, hz, rfl⟩ := List.mem_map.1 hx
      have hn := h.num z hz
      exact ⟨z.1.toNat, by omega, List.any_eq_true.2 ⟨z, hz, by rw [beq_iff_eq]; omega⟩, by omega⟩
/-- places as cells -/
def adL (l : List Ix.Ad) : List Value := l.flatMap fun a => [.int .i64 a.1, .int .i64 a.2]
theorem adL_append (l m : List Ix.Ad) : adL l ++ adL m = adL (l ++ m) := by simp [adL]
theorem adL_length (l : List Ix.Ad) : (adL l).length = l.length * 2 := by
  induction l with
  | nil => rfl
  | cons x l ih =>
    show (_ :: _ :: adL l).length = _
    simp only [List.length_cons, ih]
    omega
theorem adL_get : ∀ (l : List Ix.Ad) (k : Nat) (h : k < l.length), (adL l)[k * 2]? = some (.int .i64 l[k].1) ∧ (adL l)[k * 2 + 1]? = some (.int .i64 l[k].2)
  | [], k, h => absurd h (by simp)
  | x :: l, 0, _ => ⟨rfl, rfl⟩
  | x :: l, k + 1, h => by
    have := adL_get l k (by simpa using h)
    have e : adL (x :: l) = .int .i64 x.1 :: .int .i64 x.2 :: adL l := rfl
    rw [e, show (k + 1) * 2 = k * 2 + 1 + 1 by omega]
    simpa using this
theorem ad_parts : ∃ i, Tryd.prog.info? 30 = some i ∧ i.zero = some (adV (0, 0)) ∧ i.size = 2 ∧ i.bytes = 16 := by
  have h : (Tryd.prog.info? 30).map (fun i => (i.zero, i.size, i.bytes)) = some (some (adV (0, 0)), 2, 16) := by kernel_rfl
  cases hi : Tryd.prog.info? 30 with
  | none => rw [hi] at h; cases h
  | some i =>
    rw [hi] at h
    simp only [Option.map_some, Option.some.injEq, Prod.mk.injEq] at h
    exact ⟨i, rfl, h.1, h.2.1, h.2.2⟩
/-- places, as a row of the call's own -/
def AdsTo (l : List Ix.Ad) (w : World) (e : Ending) (w' : World) : Prop :=
  ∃ A c, e = .returned (.slice A l.length c) ∧ Vs w' w'.heap.size A (l.length * 2) (adL l) ∧ l.length ≤ c ∧ Below w.heap.size w w'
end Go.Proofs.YtcmhodimkpkmbaaDoor
