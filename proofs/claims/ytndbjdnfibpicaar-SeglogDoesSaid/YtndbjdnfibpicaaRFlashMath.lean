/-
  Plain mathematics of a device: its used pages as a list, in the order in which they were written.
-/
import Derived.Test.YtndbjdnfibpicaaRChecked
namespace Go.Proofs.YtndbjdnfibpicaaR.Fl

/-- a used page: its place, what was written to it (erased behind), whether that is not lasting -/
structure Pg where
  seg : Int
  page : Int
  raw : List UInt8
  dirty : Bool
def at_ (s p : Int) (q : Pg) : Bool := decide (q.seg = s ∧ q.page = p)
def addr (q : Pg) : Int × Int := (q.seg, q.page)
def lk (L : List Pg) (s p : Int) : Option (List UInt8) := (L.find? (at_ s p)).map (·.raw)
def dirt (L : List Pg) : List (Int × Int) := (L.filter (·.dirty)).map addr
def full (B : Nat) (l : List UInt8) : List UInt8 := l.take B ++ List.replicate (B - l.length) 255
structure Shp (S P B : Nat) : Prop where
  s1 : 1 ≤ S
  s2 : S ≤ 16
  p1 : 1 ≤ P
  p2 : P ≤ 64
  b1 : 16 ≤ B
  b2 : B ≤ 256
structure In (S P B : Nat) (q : Pg) : Prop where
  s0 : 0 ≤ q.seg
  s1 : q.seg < S
  p0 : 0 ≤ q.page
  p1 : q.page < P
  len : q.raw.length ≤ B
def Ap (L : List Pg) : Prop := L.Pairwise fun x y => addr x ≠ addr y
structure Ok (S P B : Nat) (L : List Pg) : Prop where
  rng : ∀ q ∈ L, In S P B q
  ap : Ap L

theorem at_iff {s p : Int} {q : Pg} : at_ s p q = true ↔ q.seg = s ∧ q.page = p := by simp [at_]
theorem at_addr {s p : Int} {q : Pg} : at_ s p q = true ↔ addr q = (s, p) := by simp [at_, addr]
theorem at_not {s p : Int} {q : Pg} : at_ s p q = false ↔ addr q ≠ (s, p) := by
  rw [Ne, ← at_addr]; simp
theorem full_length (B : Nat) (l : List UInt8) : (full B l).length = B := by simp [full]; omega
theorem full_take {B n : Nat} (l : List UInt8) (h : n ≤ B) : full B ((full B l).take n) = full B (l.take n) := by
  unfold full
  apply List.ext_getElem?
  intro i
  simp only [List.getElem?_append, List.getElem?_take, List.length_take, List.length_append, List.length_replicate, List.getElem?_replicate]
  repeat' split
  all_goals first | rfl | omega | skip
theorem full_nil (B : Nat) : full B [] = List.replicate B 255 := by simp [full]

theorem lk_none {L : List Pg} {s p : Int} : lk L s p = none ↔ ∀ q ∈ L, at_ s p q = false := by
  unfold lk
  rw [Option.map_eq_none_iff, List.find?_eq_none]
  simp
theorem lk_cons {q : Pg} {L : List Pg} {s p : Int} : lk (q :: L) s p = if at_ s p q then some q.raw else lk L s p := by
  unfold lk
  rw [List.find?_cons]
  cases at_ s p q <;> rfl
theorem lk_append {L M : List Pg} {s p : Int} : lk (L ++ M) s p = (lk L s p).or (lk M s p) := by
  induction L with
  | nil => simp [lk]
  | cons q L ih =>
    rw [List.cons_append, lk_cons, lk_cons, ih]
    split <;> rfl
theorem lk_mem {L : List Pg} (h : Ap L) {q : Pg} (hq : q ∈ L) : lk L q.seg q.page = some q.raw := by
  induction L with
  | nil => cases hq
  | cons x L ih =>
    rw [lk_cons]
    obtain ⟨h1, h2⟩ := List.pairwise_cons.1 h
    rcases List.mem_cons.1 hq with rfl | hq
    · rw [if_pos (at_iff.2 ⟨rfl, rfl⟩)]
    · rw [if_neg, ih h2 hq]
      rw [Bool.not_eq_true, at_not]
      exact h1 q hq
theorem lk_some {L : List Pg} {s p : Int} {r : List UInt8} (h : lk L s p = some r) : ∃ j, ∃ hj : j < L.length, L[j].seg = s ∧ L[j].page = p ∧ L[j].raw = r := by
  unfold lk at h
  obtain ⟨q, hq, rfl⟩ := Option.map_eq_some_iff.1 h
  obtain ⟨j, hj, rfl⟩ := List.getElem_of_mem (List.mem_of_find?_eq_some hq)
  have := List.find?_some hq
  rw [at_iff] at this
  exact ⟨j, hj, this.1, this.2, rfl⟩
theorem lk_len {S P B : Nat} {L : List Pg} (h : Ok S P B L) {s p : Int} {r : List UInt8} (hr : lk L s p = some r) : r.length ≤ B := by
  obtain ⟨j, hj, _, _, rfl⟩ := lk_some hr
  exact (h.rng _ (List.getElem_mem hj)).len

/-- a page is erased -/
def del (s p : Int) (L : List Pg) : List Pg := L.filter fun q => !at_ s p q
theorem lk_del {L : List Pg} {s p s2 p2 : Int} : lk (del s p L) s2 p2 = if s2 = s ∧ p2 = p then none else lk L s2 p2 := by
  split
  · rename_i h
    obtain ⟨rfl, rfl⟩ := h
    rw [lk_none]
    intro q hq
    simpa using (List.mem_filter.1 hq).2
  · rename_i h
    unfold lk del
    rw [List.find?_filter]
    congr 2
    funext q
    by_cases hq : at_ s2 p2 q = true
    · rw [hq]
      rw [at_iff] at hq
      have : at_ s p q = false := by
        rw [at_not, addr, hq.1, hq.2]
        intro e
        exact h (by simpa using e)
      simp [this]
    · rw [Bool.not_eq_true] at hq
      simp [hq]
theorem ap_filter {L : List Pg} (f : Pg → Bool) (h : Ap L) : Ap (L.filter f) := h.filter _
theorem del_none {L : List Pg} {s p : Int} (h : lk L s p = none) : del s p L = L := by
  unfold del
  rw [List.filter_eq_self]
  intro q hq
  rw [lk_none.1 h q hq]
  rfl
theorem del_len {L : List Pg} (h : Ap L) {s p : Int} : (del s p L).length = if (lk L s p).isSome then L.length - 1 else L.length := by
  induction L with
  | nil => rfl
  | cons q L ih =>
    obtain ⟨h1, h2⟩ := List.pairwise_cons.1 h
    rw [lk_cons]
    unfold del at ih ⊢
    rw [List.filter_cons]
    cases hq : at_ s p q
    · simp only [Bool.not_false, if_true, List.length_cons, ih h2, Bool.false_eq_true, if_false]
      split
      · rename_i hs
        have : 0 < L.length := by
          cases L with
          | nil => simp [lk] at hs
          | cons => simp
        omega
      · rfl
    · have hn : lk L s p = none := by
        rw [lk_none]
        intro x hx
        rw [at_not, ← at_addr.1 hq]
        exact (h1 x hx).symm
      have := del_none hn
      unfold del at this
      simp [this]
theorem Ok.filter {S P B : Nat} {L : List Pg} (h : Ok S P B L) (f : Pg → Bool) : Ok S P B (L.filter f) :=
  ⟨fun q hq => h.rng q (List.mem_filter.1 hq).1, ap_filter f h.ap⟩
theorem Ok.del {S P B : Nat} {L : List Pg} (h : Ok S P B L) (s p : Int) : Ok S P B (del s p L) := h.filter _

/-- a segment is erased -/
def erase (s : Int) (L : List Pg) : List Pg := L.filter fun q => !decide (q.seg = s)
/-- its first k pages are -/
def erased (s : Int) (k : Nat) (L : List Pg) : List Pg := L.filter fun q => !decide (q.seg = s ∧ q.page < k)
theorem erased_zero {S P B : Nat} {L : List Pg} (h : Ok S P B L) (s : Int) : erased s 0 L = L := by
  unfold erased
  rw [List.filter_eq_self]
  intro q hq
  have := (h.rng q hq).p0
  simp
  omega
theorem erased_succ {S P B : Nat} {L : List Pg} (h : Ok S P B L) (s : Int) (k : Nat) : erased s (k + 1) L = del s k (erased s k L) := by
  unfold erased del
  rw [List.filter_filter]
  apply List.filter_congr
  intro q hq
  have := (h.rng q hq).p0
  unfold at_
  rw [Bool.eq_iff_iff]
  simp
  omega
theorem erased_all {S P B : Nat} {L : List Pg} (h : Ok S P B L) (s : Int) : erased s P L = erase s L := by
  unfold erased erase
  apply List.filter_congr
  intro q hq
  have := (h.rng q hq).p1
  rw [Bool.eq_iff_iff]
  simp
  omega
theorem dirt_erase (s : Int) (L : List Pg) : dirt (erase s L) = (dirt L).filter fun x => !decide (x.1 = s) := by
  unfold dirt erase
  rw [List.filter_map, List.filter_filter, List.filter_filter]
  congr 1
  apply List.filter_congr
  intro q _
  show (q.dirty && !decide (q.seg = s)) = (!decide (q.seg = s) && q.dirty)
  exact Bool.and_comm _ _

/-- all is lasting -/
def sync (L : List Pg) : List Pg := L.map fun q => { q with dirty := false }
theorem lk_sync (L : List Pg) (s p : Int) : lk (sync L) s p = lk L s p := by
  induction L with
  | nil => rfl
  | cons q L ih =>
    unfold sync at ih ⊢
    rw [List.map_cons, lk_cons, lk_cons, ih]
    rfl
theorem dirt_sync (L : List Pg) : dirt (sync L) = [] := by
  unfold dirt sync
  rw [List.map_eq_nil_iff, List.filter_eq_nil_iff]
  intro q hq
  obtain ⟨x, _, rfl⟩ := List.mem_map.1 hq
  simp
theorem ap_sync {L : List Pg} (h : Ap L) : Ap (sync L) := by
  unfold Ap sync
  rw [List.pairwise_map]
  exact h.imp fun {a b} h1 => h1
theorem Ok.sync {S P B : Nat} {L : List Pg} (h : Ok S P B L) : Ok S P B (sync L) :=
  ⟨fun q hq => by
    obtain ⟨x, hx, rfl⟩ := List.mem_map.1 hq
    obtain ⟨a, b, c, d, e⟩ := h.rng x hx
    exact ⟨a, b, c, d, e⟩, ap_sync h.ap⟩
theorem sync_length (L : List Pg) : (sync L).length = L.length := by simp [sync]

/-- a page is written -/
def put (s p : Int) (r : List UInt8) (L : List Pg) : List Pg := L ++ [⟨s, p, r, true⟩]
theorem lk_put {L : List Pg} {s p : Int} (r : List UInt8) (h : lk L s p = none) (s2 p2 : Int) : lk (put s p r L) s2 p2 = if s2 = s ∧ p2 = p then some r else lk L s2 p2 := by
  unfold put
  rw [lk_append, lk_cons]
  by_cases e : s2 = s ∧ p2 = p
  · obtain ⟨rfl, rfl⟩ := e
    rw [h]
    simp [at_]
  · rw [if_neg e]
    have : at_ s2 p2 ⟨s, p, r, true⟩ = false := by
      simp [at_]
      omega
    rw [this]
    simp [lk]
theorem dirt_put (s p : Int) (r : List UInt8) (L : List Pg) : dirt (put s p r L) = dirt L ++ [(s, p)] := by simp [dirt, put, addr]
theorem Ok.put {S P B : Nat} {L : List Pg} (h : Ok S P B L) {s p : Int} {r : List UInt8} (hn : lk L s p = none) (hi : In S P B ⟨s, p, r, true⟩) : Ok S P B (put s p r L) :=
  ⟨fun q hq => by
    rcases List.mem_append.1 hq with hq | hq
    · exact h.rng q hq
    · simp only [List.mem_singleton] at hq
      subst hq
      exact hi, by
    unfold Ap Fl.put
    rw [List.pairwise_append]
    refine ⟨h.ap, by simp, fun x hx y hy => ?_⟩
    simp only [List.mem_singleton] at hy
    subst hy
    have := lk_none.1 hn x hx
    rw [at_not] at this
    exact this⟩

/-- a page's bytes are others -/
def cut (s p : Int) (n : Nat) (L : List Pg) : List Pg := L.map fun q => if at_ s p q then { q with raw := q.raw.take n, dirty := false } else q
theorem cut_other {L : List Pg} {s p : Int} (n : Nat) (h : ∀ q ∈ L, at_ s p q = false) : cut s p n L = L := by
  unfold cut
  rw [List.map_congr_left (g := id)]
  · simp
  · intro q hq
    rw [h q hq]
    rfl
theorem lk_cut (L : List Pg) (s p : Int) (n : Nat) (s2 p2 : Int) : lk (cut s p n L) s2 p2 = if s2 = s ∧ p2 = p then (lk L s2 p2).map (·.take n) else lk L s2 p2 := by
  induction L with
  | nil => simp [lk, cut]
  | cons q L ih =>
    have e : cut s p n (q :: L) = (if at_ s p q then { q with raw := q.raw.take n, dirty := false } else q) :: cut s p n L := rfl
    rw [e, lk_cons, lk_cons, ih]
    have e2 : at_ s2 p2 (if at_ s p q then { q with raw := q.raw.take n, dirty := false } else q) = at_ s2 p2 q := by split <;> rfl
    rw [e2]
    by_cases h : s2 = s ∧ p2 = p
    · obtain ⟨rfl, rfl⟩ := h
      simp only [and_self, if_true]
      cases at_ s2 p2 q <;> rfl
    · rw [if_neg h, if_neg h]
      cases h2 : at_ s2 p2 q
      · rfl
      · rw [at_iff] at h2
        have : at_ s p q = false := by
          rw [at_not, addr, h2.1, h2.2]
          intro e
          exact h (by simpa using e)
        rw [this]
        rfl
theorem cut_length (s p : Int) (n : Nat) (L : List Pg) : (cut s p n L).length = L.length := by simp [cut]
theorem Ok.cut {S P B : Nat} {L : List Pg} (h : Ok S P B L) (s p : Int) (n : Nat) : Ok S P B (cut s p n L) :=
  ⟨fun q hq => by
    obtain ⟨x, hx, rfl⟩ := List.mem_map.1 hq
    obtain ⟨a, b, c, d, e⟩ := h.rng x hx
    split
    · exact ⟨a, b, c, d, by simp; omega⟩
    · exact ⟨a, b, c, d, e⟩, by
    unfold Ap Fl.cut
    rw [List.pairwise_map]
    refine h.ap.imp fun {a b} h1 => ?_
    have e (q : Pg) : addr (if at_ s p q then { q with raw := q.raw.take n, dirty := false } else q) = addr q := by split <;> rfl
    rw [e, e]
    exact h1⟩

/-- a crash: the pages that aren't lasting stand from i on; f: how many bytes each keeps -/
def crash (f : Nat → Nat) : Nat → List Pg → List Pg
  | _, [] => []
  | i, q :: L => if q.dirty then (if f i = 0 then crash f (i + 1) L else { q with raw := q.raw.take (f i), dirty := false } :: crash f (i + 1) L) else q :: crash f i L
/-- its first m of them -/
def crashed (f : Nat → Nat) : Nat → Nat → List Pg → List Pg
  | _, _, [] => []
  | i, m, q :: L => if q.dirty then (match m with | 0 => q :: L | m + 1 => if f i = 0 then crashed f (i + 1) m L else { q with raw := q.raw.take (f i), dirty := false } :: crashed f (i + 1) m L) else q :: crashed f i m L
theorem crashed_zero (f : Nat → Nat) (i : Nat) (L : List Pg) : crashed f i 0 L = L := by
  induction L with
  | nil => rfl
  | cons q L ih =>
    unfold crashed
    split
    · rfl
    · rw [ih]
theorem crashed_all (f : Nat → Nat) (L : List Pg) : ∀ i, crashed f i (dirt L).length L = crash f i L := by
  induction L with
  | nil => intro i; rfl
  | cons q L ih =>
    intro i
    unfold crashed crash
    cases hq : q.dirty
    · have e : (dirt (q :: L)).length = (dirt L).length := by simp [dirt, hq]
      rw [e]
      simp [ih i]
    · have e : (dirt (q :: L)).length = (dirt L).length + 1 := by simp [dirt, hq]
      rw [e]
      simp [ih (i + 1)]
theorem crashed_addr (f : Nat → Nat) (L : List Pg) : ∀ i m q, q ∈ crashed f i m L → ∃ x ∈ L, addr x = addr q := by
  induction L with
  | nil => intro i m q hq; cases hq
  | cons y L ih =>
    intro i m q hq
    unfold crashed at hq
    split at hq
    · split at hq
      · exact ⟨q, hq, rfl⟩
      · split at hq
        · obtain ⟨x, hx, e⟩ := ih _ _ _ hq
          exact ⟨x, by simp [hx], e⟩
        · rcases List.mem_cons.1 hq with rfl | hq
          · exact ⟨y, by simp, rfl⟩
          · obtain ⟨x, hx, e⟩ := ih _ _ _ hq
            exact ⟨x, by simp [hx], e⟩
    · rcases List.mem_cons.1 hq with rfl | hq
      · exact ⟨q, by simp, rfl⟩
      · obtain ⟨x, hx, e⟩ := ih _ _ _ hq
        exact ⟨x, by simp [hx], e⟩
theorem del_cons {s p : Int} {q : Pg} {L : List Pg} (h : at_ s p q = false) : del s p (q :: L) = q :: del s p L := by
  unfold del
  rw [List.filter_cons, h]
  rfl
theorem cut_cons {s p : Int} {n : Nat} {q : Pg} {L : List Pg} (h : at_ s p q = false) : cut s p n (q :: L) = q :: cut s p n L := by
  unfold cut
  rw [List.map_cons, h]
  rfl
theorem del_head {s p : Int} {q : Pg} {L : List Pg} (h : at_ s p q = true) (hL : ∀ x ∈ L, at_ s p x = false) : del s p (q :: L) = L := by
  unfold del
  rw [List.filter_cons, h]
  simp only [Bool.not_true, Bool.false_eq_true, if_false]
  exact List.filter_eq_self.2 fun x hx => by rw [hL x hx]; rfl
theorem cut_head {s p : Int} {n : Nat} {q : Pg} {L : List Pg} (h : at_ s p q = true) (hL : ∀ x ∈ L, at_ s p x = false) : cut s p n (q :: L) = { q with raw := q.raw.take n, dirty := false } :: L := by
  have := cut_other n hL
  unfold cut at this ⊢
  rw [List.map_cons, h, this]
  rfl
/-- one page more -/
theorem crashed_succ (f : Nat → Nat) (L : List Pg) (h : Ap L) : ∀ i m s p, (dirt L)[m]? = some (s, p) →
    crashed f i (m + 1) L = if f (i + m) = 0 then del s p (crashed f i m L) else cut s p (f (i + m)) (crashed f i m L) := by
  induction L with
  | nil => intro i m s p hm; simp [dirt] at hm
  | cons q L ih =>
    obtain ⟨h1, h2⟩ := List.pairwise_cons.1 h
    intro i m s p hm
    cases hq : q.dirty
    · have e : dirt (q :: L) = dirt L := by simp [dirt, hq]
      rw [e] at hm
      obtain ⟨x, hx, hxa⟩ : ∃ x ∈ L, addr x = (s, p) := by
        have := List.mem_of_getElem? hm
        unfold dirt at this
        obtain ⟨x, hx, e⟩ := List.mem_map.1 this
        exact ⟨x, (List.mem_filter.1 hx).1, e⟩
      have hqn : at_ s p q = false := by
        rw [at_not, ← hxa]
        exact h1 x hx
      have e1 : ∀ k, crashed f i k (q :: L) = q :: crashed f i k L := fun k => by
        conv => lhs; unfold crashed
        rw [hq]
        simp
      rw [e1, e1, ih h2 i m s p hm]
      split
      · rw [del_cons hqn]
      · rw [cut_cons hqn]
    · have e : dirt (q :: L) = addr q :: dirt L := by simp [dirt, hq]
      rw [e] at hm
      cases m with
      | zero =>
        simp only [List.getElem?_cons_zero, Option.some.injEq] at hm
        have hqa : at_ s p q = true := at_addr.2 hm
        have hL : ∀ x ∈ L, at_ s p x = false := fun x hx => by
          rw [at_not, ← hm]
          exact (h1 x hx).symm
        rw [crashed_zero]
        unfold crashed
        rw [hq]
        simp only [if_true, Nat.add_zero, crashed_zero]
        split
        · rw [del_head hqa hL]
        · rw [cut_head hqa hL]
      | succ m =>
        simp only [List.getElem?_cons_succ] at hm
        obtain ⟨x, hx, hxa⟩ : ∃ x ∈ L, addr x = (s, p) := by
          have := List.mem_of_getElem? hm
          unfold dirt at this
          obtain ⟨x, hx, e⟩ := List.mem_map.1 this
          exact ⟨x, (List.mem_filter.1 hx).1, e⟩
        have hqn : at_ s p q = false := by
          rw [at_not, ← hxa]
          exact h1 x hx
        have e1 : ∀ k, crashed f i (k + 1) (q :: L) = if f i = 0 then crashed f (i + 1) k L else { q with raw := q.raw.take (f i), dirty := false } :: crashed f (i + 1) k L := fun k => by
          conv => lhs; unfold crashed
          rw [hq]
          simp
        have hqn2 : at_ s p { q with raw := q.raw.take (f i), dirty := false } = false := hqn
        rw [e1, e1, ih h2 (i + 1) m s p hm, show i + 1 + m = i + (m + 1) by omega]
        by_cases h0 : f i = 0
        · rw [if_pos h0, if_pos h0]
        · rw [if_neg h0, if_neg h0]
          split
          · rw [del_cons hqn2]
          · rw [cut_cons hqn2]
theorem dirt_apart {L : List Pg} (h : Ap L) : (dirt L).Pairwise fun x y => x ≠ y := by
  unfold dirt
  rw [List.pairwise_map]
  exact List.Pairwise.filter _ h
theorem dirt_mem {L : List Pg} {s p : Int} (h : (s, p) ∈ dirt L) : ∃ q ∈ L, q.seg = s ∧ q.page = p := by
  unfold dirt at h
  obtain ⟨x, hx, e⟩ := List.mem_map.1 h
  unfold addr at e
  injection e with e1 e2
  exact ⟨x, (List.mem_filter.1 hx).1, e1, e2⟩
/-- those that are still to come are as they were -/
theorem crashed_keep (f : Nat → Nat) {L : List Pg} (h : Ap L) {s p : Int} {j : Nat} (hj : (dirt L)[j]? = some (s, p)) : ∀ m, m ≤ j → lk (crashed f 0 m L) s p = lk L s p
  | 0, _ => by rw [crashed_zero]
  | m + 1, hm => by
    have hjl : j < (dirt L).length := (List.getElem?_eq_some_iff.1 hj).1
    have hml : m < (dirt L).length := by omega
    obtain ⟨s2, p2, e2⟩ : ∃ s2 p2, (dirt L)[m] = (s2, p2) := ⟨_, _, rfl⟩
    have hg : (dirt L)[m]? = some (s2, p2) := by rw [List.getElem?_eq_getElem hml, e2]
    have hne : ¬ (s = s2 ∧ p = p2) := fun e => by
      have h1 := List.pairwise_iff_getElem.1 (dirt_apart h) m j hml hjl (by omega)
      apply h1
      rw [(List.getElem?_eq_some_iff.1 hj).2, e2, e.1, e.2]
    rw [crashed_succ f L h 0 m _ _ hg]
    split
    · rw [lk_del, if_neg hne]
      exact crashed_keep f h hj m (by omega)
    · rw [lk_cut, if_neg hne]
      exact crashed_keep f h hj m (by omega)
theorem Ok.crashed {S P B : Nat} {L : List Pg} (h : Ok S P B L) (f : Nat → Nat) : ∀ m, m ≤ (dirt L).length → Ok S P B (crashed f 0 m L)
  | 0, _ => by rw [crashed_zero]; exact h
  | m + 1, hm => by
    have hg := List.getElem?_eq_getElem (show m < (dirt L).length by omega)
    rw [crashed_succ f L h.ap 0 m _ _ hg]
    split
    · exact (Ok.crashed h f m (by omega)).del _ _
    · exact (Ok.crashed h f m (by omega)).cut _ _ _
theorem Ok.crash {S P B : Nat} {L : List Pg} (h : Ok S P B L) (f : Nat → Nat) : Ok S P B (crash f 0 L) := by
  rw [← crashed_all]
  exact h.crashed f _ (Nat.le_refl _)
theorem dirt_crash (f : Nat → Nat) (L : List Pg) : ∀ i, dirt (crash f i L) = [] := by
  induction L with
  | nil => intro i; rfl
  | cons q L ih =>
    intro i
    unfold crash
    split
    · split
      · exact ih _
      · have := ih (i + 1)
        simpa [dirt] using this
    · rename_i hq
      have := ih i
      have hq : q.dirty = false := by simpa using hq
      simpa [dirt, hq] using this
theorem crash_append (f : Nat → Nat) (L M : List Pg) : ∀ i, crash f i (L ++ M) = crash f i L ++ crash f (i + (dirt L).length) M := by
  induction L with
  | nil => intro i; rfl
  | cons q L ih =>
    intro i
    have e1 : ∀ N, crash f i (q :: N) = if q.dirty then (if f i = 0 then crash f (i + 1) N else { q with raw := q.raw.take (f i), dirty := false } :: crash f (i + 1) N) else q :: crash f i N := fun N => by
      conv => lhs; unfold crash
    rw [List.cons_append, e1, e1]
    cases hq : q.dirty
    · have e : (dirt (q :: L)).length = (dirt L).length := by simp [dirt, hq]
      rw [e, ih i]
      simp
    · have e : (dirt (q :: L)).length = (dirt L).length + 1 := by simp [dirt, hq]
      rw [e, ih (i + 1), show i + ((dirt L).length + 1) = i + 1 + (dirt L).length by omega]
      by_cases h0 : f i = 0 <;> simp [h0]
theorem crash_length (f : Nat → Nat) (L : List Pg) : ∀ i, (crash f i L).length ≤ L.length := by
  induction L with
  | nil => intro i; simp [crash]
  | cons q L ih =>
    intro i
    unfold crash
    have h1 := ih i
    have h2 := ih (i + 1)
    split
    · split <;> simp <;> omega
    · simp; omega
theorem erase_length (s : Int) (L : List Pg) : (erase s L).length ≤ L.length := List.length_filter_le _ _
theorem dirt_length (L : List Pg) : (dirt L).length ≤ L.length := by unfold dirt; rw [List.length_map]; exact List.length_filter_le _ _

/-- how many bytes a page keeps -/
def keep (B K : Nat) (torn cut : Int) (i : Nat) : Nat := if (i : Int) = torn then (min (max cut 0) B).toNat else if K / 2 ^ i % 2 = 1 then B else 0
end Go.Proofs.YtndbjdnfibpicaaR.Fl
