/-
  A ring of objects: plain mathematics (a row of objects, each marked or not).
-/
import Derived.Test.YtlhkcfhhgcmieaaChecked
namespace Go.Proofs.Ytlhkcfhhgcmieaa
namespace Ck
abbrev Sit := Int × Bool
/-- where an object is in a row; its length: it isn't there -/
def pos (l : List Sit) (o : Int) : Nat := l.findIdx fun p => p.1 == o
theorem pos_le (l : List Sit) (o : Int) : pos l o ≤ l.length := List.findIdx_le_length
theorem pos_far {l : List Sit} {o : Int} {k : Nat} (hk : k < l.length) (h : k < pos l o) : l[k].1 ≠ o := by
  have := List.not_of_lt_findIdx h
  simpa using this
theorem pos_at {l : List Sit} {o : Int} (h : pos l o < l.length) : l[pos l o].1 = o := by
  have := List.findIdx_getElem (xs := l) (p := fun (p : Sit) => p.1 == o) (w := h)
  exact eq_of_beq this
theorem pos_hit {l : List Sit} {o : Int} {k : Nat} (hk : k < l.length) (h : k ≤ pos l o) (e : l[k].1 = o) : pos l o = k := by
  rcases Nat.lt_or_ge k (pos l o) with hlt | hge
  · exact absurd e (pos_far hk hlt)
  · omega
theorem pos_miss {l : List Sit} {o : Int} {k : Nat} (hk : k < l.length) (h : k ≤ pos l o) (e : l[k].1 ≠ o) : k + 1 ≤ pos l o := by
  rcases Nat.lt_or_ge k (pos l o) with hlt | hge
  · omega
  · exact absurd (by have : k = pos l o := by omega
                     subst this
                     exact pos_at hk) e
theorem pos_mem {l : List Sit} {o : Int} : pos l o < l.length ↔ o ∈ l.map (·.1) := by
  constructor
  · intro h
    exact List.mem_map.2 ⟨l[pos l o], List.getElem_mem h, pos_at h⟩
  · intro h
    obtain ⟨p, hp, e⟩ := List.mem_map.1 h
    exact List.findIdx_lt_length_of_exists ⟨p, hp, by simpa using e⟩
def may (o : Int) : Bool := decide (0 ≤ o ∧ o ≤ 15)
/-- whether an object is marked -/
def mark (l : List Sit) (o : Int) : Bool := match l[pos l o]? with
  | some p => p.2
  | none => false
theorem mark_yes {l : List Sit} {o : Int} (h : pos l o < l.length) : mark l o = l[pos l o].2 := by
  unfold mark
  rw [List.getElem?_eq_getElem h]
theorem mark_no {l : List Sit} {o : Int} (h : ¬ pos l o < l.length) : mark l o = false := by
  unfold mark
  rw [List.getElem?_eq_none (by omega)]
/-- what may be: no object twice, all of them from 0 to 15 -/
structure Ok (l : List Sit) : Prop where
  one : (l.map (·.1)).Nodup
  may : ∀ p ∈ l, may p.1 = true
theorem Ok.nil : Ok [] := ⟨List.nodup_nil, by simp⟩
theorem few : ∀ (n : Nat) (l : List Int), l.Nodup → (∀ x ∈ l, 0 ≤ x ∧ x < (n : Int)) → l.length ≤ n
  | 0, l, _, h => by
    cases l with
    | nil => simp
    | cons x l => have := h x (by simp); omega
  | n + 1, l, hd, h => by
    have h1 := few n (l.erase (n : Int)) (hd.erase _) (fun x hx => by
      have h2 := h x (List.mem_of_mem_erase hx)
      have h3 : x ≠ (n : Int) := fun e => by
        subst e
        exact hd.not_mem_erase hx
      omega)
    rw [List.length_erase] at h1
    split at h1 <;> omega
theorem Ok.len {l : List Sit} (h : Ok l) : l.length ≤ 16 := by
  have := few 16 (l.map (·.1)) h.one (fun x hx => by
    obtain ⟨p, hp, rfl⟩ := List.mem_map.1 hx
    have := h.may p hp
    unfold Ck.may at this
    have := of_decide_eq_true this
    omega)
  simpa using this
theorem Ok.room {l : List Sit} (h : Ok l) {o : Int} (hm : Ck.may o = true) (hp : ¬ pos l o < l.length) : l.length < 16 := by
  have := few 16 (o :: l.map (·.1)) (List.nodup_cons.2 ⟨fun h => hp (pos_mem.2 h), h.one⟩) (fun x hx => by
    have key : ∀ y, Ck.may y = true → 0 ≤ y ∧ y < ((16 : Nat) : Int) := fun y hy => by
      unfold Ck.may at hy
      have := of_decide_eq_true hy
      omega
    rcases List.mem_cons.1 hx with rfl | hx
    · exact key _ hm
    · obtain ⟨p, hp, rfl⟩ := List.mem_map.1 hx
      exact key _ (h.may p hp))
  simp at this
  omega
/-- each of them is where it is -/
theorem Ok.pos {l : List Sit} (h : Ok l) {k : Nat} (hk : k < l.length) : pos l l[k].1 = k := by
  have h1 : Ck.pos l l[k].1 < l.length := pos_mem.2 (List.mem_map.2 ⟨_, List.getElem_mem hk, rfl⟩)
  have h2 := pos_at h1
  have h3 := List.pairwise_iff_getElem.1 h.one
  rcases Nat.lt_trichotomy (Ck.pos l l[k].1) k with h4 | h4 | h4
  · exact absurd (by rw [List.getElem_map, List.getElem_map]; exact h2) (h3 _ _ (by simpa using h1) (by simpa using hk) h4)
  · exact h4
  · exact absurd (by rw [List.getElem_map, List.getElem_map]; exact h2.symm) (h3 _ _ (by simpa using hk) (by simpa using h1) h4)
def add (l : List Sit) (o : Int) : List Sit := if may o = true ∧ ¬ pos l o < l.length then l ++ [(o, false)] else l
def touch (l : List Sit) (o : Int) : List Sit := l.set (pos l o) (o, true)
def remove (l : List Sit) (o : Int) : List Sit := l.eraseIdx (pos l o)
theorem Ok.snoc {l : List Sit} (h : Ok l) {o : Int} {b : Bool} (hm : Ck.may o = true) (hp : o ∉ l.map (·.1)) : Ok (l ++ [(o, b)]) := by
  refine ⟨?_, fun p hp => ?_⟩
  · rw [List.map_append, List.nodup_append]
    refine ⟨h.one, by simp, fun a ha b hb => ?_⟩
    simp at hb
    subst hb
    exact fun e => hp (e ▸ ha)
  · rcases List.mem_append.1 hp with hp | hp
    · exact h.may p hp
    · rw [List.mem_singleton.1 hp]
      exact hm
theorem Ok.add {l : List Sit} (h : Ok l) (o : Int) : Ok (add l o) := by
  unfold Ck.add
  split
  · next h1 => exact h.snoc h1.1 fun hm => h1.2 (pos_mem.2 hm)
  · exact h
theorem touch_map (l : List Sit) (o : Int) : (touch l o).map (·.1) = l.map (·.1) := by
  unfold touch
  rcases Nat.lt_or_ge (pos l o) l.length with h | h
  · refine List.ext_getElem? fun i => ?_
    rw [List.getElem?_map, List.getElem?_map, List.getElem?_set]
    split
    · next e =>
      subst e
      rw [List.getElem?_eq_getElem h]
      simp [pos_at h]
    · rfl
  · rw [List.set_eq_of_length_le h]
theorem touch_length (l : List Sit) (o : Int) : (touch l o).length = l.length := by simp [touch]
theorem Ok.of_map {l m : List Sit} (h : Ok l) (e : m.map (·.1) = l.map (·.1)) : Ok m :=
  ⟨e ▸ h.one, fun p hp => by
    have h1 : p.1 ∈ l.map (·.1) := e ▸ List.mem_map.2 ⟨p, hp, rfl⟩
    obtain ⟨q, hq, e2⟩ := List.mem_map.1 h1
    rw [← e2]
    exact h.may q hq⟩
theorem Ok.touch {l : List Sit} (h : Ok l) (o : Int) : Ok (touch l o) := h.of_map (touch_map l o)
theorem Ok.remove {l : List Sit} (h : Ok l) (o : Int) : Ok (remove l o) :=
  ⟨(h.one).sublist ((List.eraseIdx_sublist l _).map _), fun p hp => h.may p ((List.eraseIdx_sublist l _).subset hp)⟩
/-- the first one, marked, goes to the end -/
def turn : List Sit → List Sit
  | (o, true) :: r => r ++ [(o, false)]
  | l => l
def marks (l : List Sit) : Nat := l.countP (·.2)
def vicN : Nat → List Sit → List Sit
  | 0, l => l
  | n + 1, l => vicN n (turn l)
/-- the row behind the turns -/
def vic (l : List Sit) : List Sit := vicN (marks l) l
def who (l : List Sit) : Int := match vic l with
  | [] => 0
  | p :: _ => p.1
theorem vicN_stop (o : Int) (r : List Sit) : ∀ n, vicN n ((o, false) :: r) = (o, false) :: r
  | 0 => rfl
  | n + 1 => vicN_stop o r n
theorem vic_stop (o : Int) (r : List Sit) : vic ((o, false) :: r) = (o, false) :: r := vicN_stop o r _
theorem vic_nil : vic [] = [] := rfl
theorem marks_turn (o : Int) (r : List Sit) : marks ((o, true) :: r) = marks (r ++ [(o, false)]) + 1 := by simp [marks]
theorem vic_turn (o : Int) (r : List Sit) : vic ((o, true) :: r) = vic (r ++ [(o, false)]) := by
  unfold vic
  rw [marks_turn]
  rfl
theorem Ok.turn {o : Int} {b : Bool} {r : List Sit} (h : Ok ((o, b) :: r)) : Ok (r ++ [(o, false)]) := by
  have h1 := h.one
  rw [List.map_cons, List.nodup_cons] at h1
  exact Ok.snoc ⟨h1.2, fun p hp => h.may p (List.mem_cons_of_mem _ hp)⟩ (h.may _ (List.mem_cons_self ..)) h1.1
theorem vic_any : ∀ (n : Nat) (l : List Sit), marks l = n → l ≠ [] → (∃ o r, vic l = (o, false) :: r) ∧ (vic l).length = l.length ∧ (Ok l → Ok (vic l)) := by
  intro n
  induction n with
  | zero =>
    intro l hm hl
    cases l with
    | nil => exact absurd rfl hl
    | cons p r =>
      obtain ⟨o, b⟩ := p
      cases b with
      | false => rw [vic_stop]; exact ⟨⟨o, r, rfl⟩, rfl, id⟩
      | true => rw [marks_turn] at hm; omega
  | succ n ih =>
    intro l hm hl
    cases l with
    | nil => exact absurd rfl hl
    | cons p r =>
      obtain ⟨o, b⟩ := p
      cases b with
      | false => rw [vic_stop]; exact ⟨⟨o, r, rfl⟩, rfl, id⟩
      | true =>
        rw [marks_turn] at hm
        obtain ⟨h1, h2, h3⟩ := ih (r ++ [(o, false)]) (by omega) (by simp)
        rw [vic_turn]
        exact ⟨h1, by rw [h2]; simp, fun h => h3 h.turn⟩
theorem Ok.vic {l : List Sit} (h : Ok l) : Ok (vic l) := by
  cases l with
  | nil => exact h
  | cons p r => exact (vic_any _ (p :: r) rfl (by simp)).2.2 h
theorem vic_length (l : List Sit) : (vic l).length = l.length := by
  cases l with
  | nil => rfl
  | cons p r => exact (vic_any _ (p :: r) rfl (by simp)).2.1
/-- the victim stands first, and isn't marked -/
theorem vic_head {l : List Sit} (h : l ≠ []) : ∃ r, vic l = (who l, false) :: r := by
  obtain ⟨⟨o, r, e⟩, -⟩ := vic_any _ l rfl h
  refine ⟨r, ?_⟩
  unfold who
  rw [e]
/-- all those ahead of it were marked: they go to the end -/
theorem vic_split (o : Int) : ∀ (ms r : List Sit), (∀ p ∈ ms, p.2 = true) → vic (ms ++ (o, false) :: r) = (o, false) :: (r ++ ms.map fun p => (p.1, false))
  | [], r, _ => by rw [List.nil_append, vic_stop]; simp
  | (a, b) :: ms, r, h => by
    have hb : b = true := h (a, b) (by simp)
    subst hb
    rw [List.cons_append, vic_turn, List.append_assoc, List.cons_append, vic_split o ms (r ++ [(a, false)]) (fun p hp => h p (List.mem_cons_of_mem _ hp))]
    simp
/-- as long as one isn't marked, the victim is one that isn't -/
theorem who_free {l : List Sit} (h : ∃ p ∈ l, p.2 = false) : (who l, false) ∈ l := by
  obtain ⟨ms, o, r, hms, e⟩ : ∃ ms o r, (∀ p ∈ ms, p.2 = true) ∧ l = ms ++ (o, false) :: r := by
    induction l with
    | nil => obtain ⟨p, hp, _⟩ := h; simp at hp
    | cons q l ih =>
      obtain ⟨a, b⟩ := q
      cases b with
      | false => exact ⟨[], a, l, by simp, rfl⟩
      | true =>
        obtain ⟨p, hp, hf⟩ := h
        have hp2 : p ∈ l := by
          rcases List.mem_cons.1 hp with rfl | hp
          · simp at hf
          · exact hp
        obtain ⟨ms, o, r, h1, h2⟩ := ih ⟨p, hp2, hf⟩
        refine ⟨(a, true) :: ms, o, r, fun p hp => ?_, by rw [h2]; rfl⟩
        rcases List.mem_cons.1 hp with rfl | hp
        · rfl
        · exact h1 p hp
  have h2 : who l = o := by
    unfold who
    rw [e, vic_split o ms r hms]
  rw [h2, e]
  simp
end Ck
end Go.Proofs.Ytlhkcfhhgcmieaa
