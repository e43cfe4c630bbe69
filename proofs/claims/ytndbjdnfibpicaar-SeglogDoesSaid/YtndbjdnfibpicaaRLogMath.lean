/-
  Plain mathematics of a log of segments: states, which one is open, its next page, the next number, and what lies on the device.
-/
import Derived.Test.YtndbjdnfibpicaaRFlashMath
import Derived.Test.YtndbjdnfibpicaaRMFrame
import Derived.Test.YtndbjdnfibpicaaRMPage
namespace Go.Proofs.YtndbjdnfibpicaaR.Lo
open Fl
set_option maxRecDepth 100000

structure Lg where
  st : List Int
  op : Int
  page : Int
  next : Nat
  M : List Pg
/-- the pages of a record's bytes, from a page on -/
def pgs (s p : Int) (B : Nat) (fr : List UInt8) (K : Nat) : List Pg := (List.range K).map fun (i : Nat) => (⟨s, p + (i : Int), Fm.page fr B i, true⟩ : Pg)
def app (s p : Int) (B : Nat) (fr : List UInt8) (K : Nat) (M : List Pg) : List Pg := M ++ pgs s p B fr K
theorem app_zero (s p : Int) (B : Nat) (fr : List UInt8) (M : List Pg) : app s p B fr 0 M = M := by simp [app, pgs]
theorem app_succ (s p : Int) (B : Nat) (fr : List UInt8) (K : Nat) (M : List Pg) : app s p B fr (K + 1) M = put s (p + (K : Int)) (Fm.page fr B K) (app s p B fr K M) := by
  simp [app, pgs, put, List.range_succ]
theorem app_length (s p : Int) (B : Nat) (fr : List UInt8) (K : Nat) (M : List Pg) : (app s p B fr K M).length = M.length + K := by simp [app, pgs]
theorem lk_pgs {s p : Int} {B : Nat} {fr : List UInt8} {K : Nat} {s2 p2 : Int} (h : ¬ (s2 = s ∧ p ≤ p2 ∧ p2 < p + (K : Int))) : lk (pgs s p B fr K) s2 p2 = none := by
  rw [lk_none]
  intro q hq
  obtain ⟨i, hi, rfl⟩ := List.mem_map.1 hq
  have hi' := List.mem_range.1 hi
  rw [at_not]
  intro e
  simp only [addr, Prod.mk.injEq] at e
  exact h ⟨e.1.symm, by omega, by omega⟩
theorem lk_app {s p : Int} {B : Nat} {fr : List UInt8} {K : Nat} {M : List Pg} {s2 p2 : Int} (h : ¬ (s2 = s ∧ p ≤ p2 ∧ p2 < p + (K : Int))) : lk (app s p B fr K M) s2 p2 = lk M s2 p2 := by
  rw [app, lk_append, lk_pgs h, Option.or_none]
theorem app_ok {S P B : Nat} {s p : Int} {fr : List UInt8} {M : List Pg} (h : Ok S P B M) (hs : 0 ≤ s ∧ s < (S : Int)) (hp : 0 ≤ p) : ∀ {K : Nat}, p + (K : Int) ≤ (P : Int) → (∀ p2, p ≤ p2 → p2 < p + (K : Int) → lk M s p2 = none) → Ok S P B (app s p B fr K M)
  | 0, _, _ => by rw [app_zero]; exact h
  | K + 1, hK, hu => by
    rw [app_succ]
    refine (app_ok h hs hp (K := K) (by omega) fun p2 h1 h2 => hu p2 h1 (by omega)).put ?_ ⟨hs.1, hs.2, by show (0 : Int) ≤ p + (K : Int); omega, by show p + (K : Int) < (P : Int); omega, by show (Fm.page fr B K).length ≤ B; rw [Fm.page_length]; exact Nat.le_refl _⟩
    rw [lk_app (by omega)]
    exact hu _ (by omega) (by omega)

/-- how many segments are in a state; which is the first one that is -/
def cnt (x : Int) (st : List Int) : Nat := (st.filter fun y => y == x).length
def ix (x : Int) (st : List Int) : Nat := st.findIdx fun y => y == x
def ixI (x : Int) (st : List Int) : Int := if ix x st < st.length then (ix x st : Int) else -1
theorem ix_eq {x : Int} {st : List Int} {k : Nat} (hk : st[k]? = some x) (hb : ∀ j : Nat, j < k → st[j]? ≠ some x) : ix x st = k := by
  obtain ⟨hlt, he⟩ := List.getElem?_eq_some_iff.1 hk
  unfold ix
  rw [List.findIdx_eq hlt]
  refine ⟨by simp [he], fun j hj => ?_⟩
  have := hb j hj
  rw [List.getElem?_eq_getElem (by omega)] at this
  simpa using this
theorem ixI_some {x : Int} {st : List Int} {k : Nat} (hk : st[k]? = some x) (hb : ∀ j : Nat, j < k → st[j]? ≠ some x) : ixI x st = (k : Int) := by
  unfold ixI
  rw [ix_eq hk hb, if_pos (List.getElem?_eq_some_iff.1 hk).1]
theorem ixI_none {x : Int} {st : List Int} (h : ∀ j : Nat, st[j]? ≠ some x) : ixI x st = -1 := by
  unfold ixI
  rw [if_neg]
  intro hlt
  have := List.findIdx_getElem (w := hlt)
  refine h (ix x st) ?_
  rw [List.getElem?_eq_getElem hlt]
  congr 1
  exact eq_of_beq this
theorem ix_at {x : Int} {st : List Int} (h : 0 < cnt x st) : st[ix x st]? = some x ∧ ∀ j : Nat, j < ix x st → st[j]? ≠ some x := by
  obtain ⟨y, hy⟩ := List.exists_mem_of_length_pos h
  obtain ⟨hm, he⟩ := List.mem_filter.1 hy
  have hlt : ix x st < st.length := List.findIdx_lt_length_of_exists ⟨y, hm, he⟩
  have h1 := List.findIdx_getElem (w := hlt)
  refine ⟨?_, fun j hj => ?_⟩
  · rw [List.getElem?_eq_getElem hlt]
    congr 1
    exact eq_of_beq h1
  · have h2 := List.not_of_lt_findIdx hj
    rw [List.getElem?_eq_getElem (Nat.lt_trans hj hlt)]
    intro e
    injection e with e
    simp [e] at h2
theorem cnt_take {x : Int} {st : List Int} {j : Nat} (hj : j < st.length) : cnt x (st.take (j + 1)) = cnt x (st.take j) + (if st[j] == x then 1 else 0) := by
  unfold cnt
  rw [List.take_succ_eq_append_getElem hj, List.filter_append, List.length_append]
  congr 1
  cases h : (st[j] == x) <;> simp [List.filter, h]
theorem cnt_le (x : Int) (st : List Int) : cnt x st ≤ st.length := List.length_filter_le _ _

def sealG (g : Lg) : Lg := { g with st := if 0 ≤ g.op then g.st.set g.op.toNat 2 else g.st, op := -1, page := 0 }
def opened (B : Nat) (g : Lg) : Lg :=
  { st := (sealG g).st.set (ix 0 g.st) 1, op := (ix 0 g.st : Int), page := 1, next := g.next + 1, M := app (ix 0 g.st : Int) 0 B (Fm.frame 1 g.next []) 1 g.M }
def laid (B : Nat) (kind : UInt8) (data : List UInt8) (g : Lg) : Lg :=
  { g with page := g.page + (Fm.pages data.length B : Int), M := app g.op g.page B (Fm.frame kind (g.next - 1) data) (Fm.pages data.length B) g.M }
/-- whether a record has room in the open segment -/
def room (P B n : Nat) (g : Lg) : Bool := decide (0 ≤ g.op) && decide (g.page + (Fm.pages n B : Int) ≤ (P : Int))
def perr (P B : Nat) (kind : UInt8) (data : List UInt8) (need : Nat) (g : Lg) : Int :=
  if kind = 1 then 1 else if P < Fm.pages data.length B + 1 then 10 else if room P B data.length g then 0 else if cnt 0 g.st < need then 5 else 0
/-- the log behind a record that is put, ahead of its writing; and behind it -/
def ready (P B n : Nat) (g : Lg) : Lg := if room P B n g then g else opened B g
def putG (P B : Nat) (kind : UInt8) (data : List UInt8) (need : Nat) (g : Lg) : Lg :=
  if perr P B kind data need g = 0 then laid B kind data (ready P B data.length g) else g
def putAt (P B : Nat) (kind : UInt8) (data : List UInt8) (need : Nat) (g : Lg) : Int × Int :=
  if perr P B kind data need g = 0 then ((ready P B data.length g).op, (ready P B data.length g).page) else (0, 0)
def eraseErr (S : Nat) (s : Int) (g : Lg) : Int := if 0 ≤ s ∧ s < (S : Int) then (if g.op = s then 1 else 0) else 6
def eraseG (S : Nat) (s : Int) (g : Lg) : Lg := if eraseErr S s g = 0 then { g with st := g.st.set s.toNat 0, M := erase s g.M } else g
def syncG (g : Lg) : Lg := { g with M := sync g.M }

/-- what is so of every log -/
structure Inv (S P B : Nat) (g : Lg) : Prop where
  shp : Shp S P B
  len : g.st.length = S
  ok : Ok S P B g.M
  noneO : g.op < 0 → g.op = -1 ∧ g.page = 0 ∧ ∀ j : Nat, g.st[j]? ≠ some 1
  someO : 0 ≤ g.op → g.st[g.op.toNat]? = some 1 ∧ (∀ j : Nat, g.st[j]? = some 1 → (j : Int) = g.op) ∧ 1 ≤ g.page ∧ g.page ≤ (P : Int)
  free : ∀ j : Nat, g.st[j]? = some 0 → ∀ p : Int, lk g.M (j : Int) p = none
  behind : 0 ≤ g.op → ∀ p : Int, g.page ≤ p → lk g.M g.op p = none
  vals : ∀ x ∈ g.st, x = 0 ∨ x = 1 ∨ x = 2
section
variable {S P B : Nat} {g : Lg}
theorem Inv.opS (h : Inv S P B g) (h0 : 0 ≤ g.op) : g.op < (S : Int) := by
  have := (List.getElem?_eq_some_iff.1 (h.someO h0).1).1
  rw [h.len] at this
  omega
theorem Inv.ix1 (h : Inv S P B g) : ixI 1 g.st = g.op := by
  rcases (by omega : g.op < 0 ∨ 0 ≤ g.op) with h0 | h0
  · rw [ixI_none (h.noneO h0).2.2, (h.noneO h0).1]
  · rw [ixI_some (h.someO h0).1]
    · omega
    · intro j hj hc
      have := (h.someO h0).2.1 j hc
      omega
theorem get_set {st : List Int} {k : Nat} {x y : Int} {j : Nat} (h : (st.set k x)[j]? = some y) : (j = k ∧ k < st.length ∧ y = x) ∨ (j ≠ k ∧ st[j]? = some y) := by
  by_cases hj : j = k
  · subst hj
    have hlt := (List.getElem?_eq_some_iff.1 h).1
    rw [List.length_set] at hlt
    rw [List.getElem?_set_self hlt] at h
    injection h with h
    exact .inl ⟨rfl, hlt, h.symm⟩
  · rw [List.getElem?_set_ne (Ne.symm hj)] at h
    exact .inr ⟨hj, h⟩
theorem mem_set {st : List Int} {k : Nat} {x y : Int} (h : y ∈ st.set k x) : y = x ∨ y ∈ st := by
  rcases List.mem_or_eq_of_mem_set h with h | h
  · exact .inr h
  · exact .inl h
theorem Inv.sealG (h : Inv S P B g) : Inv S P B (sealG g) := by
  have hst : (Lo.sealG g).st = if 0 ≤ g.op then g.st.set g.op.toNat 2 else g.st := rfl
  have hop : (Lo.sealG g).op = -1 := rfl
  have hM : (Lo.sealG g).M = g.M := rfl
  refine ⟨h.shp, ?_, h.ok, fun _ => ⟨rfl, rfl, fun j hj => ?_⟩, fun h0 => absurd h0 (by rw [hop]; omega), fun j hj p => ?_, fun h0 => absurd h0 (by rw [hop]; omega), fun x hx => ?_⟩
  · rw [hst]; split
    · rw [List.length_set]; exact h.len
    · exact h.len
  · rw [hst] at hj
    split at hj
    · rename_i h0
      rcases get_set hj with ⟨_, _, h2⟩ | ⟨h1, h2⟩
      · omega
      · have := (h.someO h0).2.1 j h2
        omega
    · rename_i h0
      exact (h.noneO (by omega)).2.2 j hj
  · rw [hst] at hj
    rw [hM]
    split at hj
    · rcases get_set hj with ⟨_, _, h2⟩ | ⟨_, h2⟩
      · omega
      · exact h.free j h2 p
    · exact h.free j hj p
  · rw [hst] at hx
    split at hx
    · rcases mem_set hx with h1 | h1
      · exact .inr (.inr h1)
      · exact h.vals x h1
    · exact h.vals x hx
theorem Inv.sealed0 (h : Inv S P B g) (j : Nat) : (Lo.sealG g).st[j]? = some 0 ↔ g.st[j]? = some 0 := by
  have hst : (Lo.sealG g).st = if 0 ≤ g.op then g.st.set g.op.toNat 2 else g.st := rfl
  rw [hst]
  split
  · rename_i h0
    constructor
    · intro hj
      rcases get_set hj with ⟨_, _, h2⟩ | ⟨_, h2⟩
      · omega
      · exact h2
    · intro hj
      by_cases e : j = g.op.toNat
      · subst e
        rw [(h.someO h0).1] at hj
        injection hj with hj
        omega
      · rw [List.getElem?_set_ne (Ne.symm e)]
        exact hj
  · exact Iff.rfl
theorem Inv.ixS (h : Inv S P B g) (hc : 0 < cnt 0 g.st) : ix 0 g.st < S := by
  have := (List.getElem?_eq_some_iff.1 (ix_at hc).1).1
  rw [h.len] at this
  exact this
theorem Inv.opened (h : Inv S P B g) (hc : 0 < cnt 0 g.st) : Inv S P B (opened B g) := by
  have hs := h.sealG
  have hix := h.ixS hc
  have hfree := h.free _ (ix_at hc).1
  have hp1 := h.shp.p1
  have hlen : (Lo.sealG g).st.length = S := hs.len
  refine ⟨h.shp, ?_, ?_, fun h0 => ?_, fun _ => ⟨?_, ?_, ?_, ?_⟩, fun j hj p => ?_, fun _ p hp => ?_, fun x hx => ?_⟩
  · show ((Lo.sealG g).st.set (ix 0 g.st) 1).length = S
    rw [List.length_set]; exact hlen
  · exact app_ok h.ok ⟨by omega, by omega⟩ (by omega) (by omega) fun p2 _ _ => hfree p2
  · exact absurd h0 (by show ¬ ((ix 0 g.st : Nat) : Int) < 0; omega)
  · show ((Lo.sealG g).st.set (ix 0 g.st) 1)[((ix 0 g.st : Nat) : Int).toNat]? = some 1
    rw [Int.toNat_natCast, List.getElem?_set_self (by omega)]
  · intro j hj
    show (j : Int) = ((ix 0 g.st : Nat) : Int)
    rcases get_set hj with ⟨h1, _, _⟩ | ⟨_, h2⟩
    · omega
    · exact absurd h2 ((hs.noneO (by show (-1 : Int) < 0; omega)).2.2 j)
  · show (1 : Int) ≤ 1; omega
  · show (1 : Int) ≤ (P : Int); omega
  · rcases get_set hj with ⟨_, _, h2⟩ | ⟨h1, h2⟩
    · omega
    · show lk (app ((ix 0 g.st : Nat) : Int) 0 B (Fm.frame 1 g.next []) 1 g.M) (j : Int) p = none
      rw [lk_app (by omega)]
      exact h.free j ((h.sealed0 j).1 h2) p
  · show lk (app ((ix 0 g.st : Nat) : Int) 0 B (Fm.frame 1 g.next []) 1 g.M) ((ix 0 g.st : Nat) : Int) p = none
    have hp' : (1 : Int) ≤ p := hp
    rw [lk_app (by omega)]
    exact hfree p
  · rcases mem_set hx with h1 | h1
    · exact .inr (.inl h1)
    · exact hs.vals x h1
theorem Inv.laid (h : Inv S P B g) (h0 : 0 ≤ g.op) (kind : UInt8) (data : List UInt8) (hr : g.page + (Fm.pages data.length B : Int) ≤ (P : Int)) : Inv S P B (laid B kind data g) := by
  have hopS := h.opS h0
  obtain ⟨h1, h2, h3, h4⟩ := h.someO h0
  refine ⟨h.shp, h.len, ?_, fun hn => absurd hn (by show ¬ g.op < 0; omega), fun _ => ⟨h1, h2, ?_, hr⟩, fun j hj p => ?_, fun _ p hp => ?_, h.vals⟩
  · exact app_ok h.ok ⟨h0, hopS⟩ (by omega) hr fun p2 hp _ => h.behind h0 p2 hp
  · show 1 ≤ g.page + (Fm.pages data.length B : Int); omega
  · show lk (app g.op g.page B (Fm.frame kind (g.next - 1) data) (Fm.pages data.length B) g.M) (j : Int) p = none
    rw [lk_app]
    · exact h.free j hj p
    · rintro ⟨e, _, _⟩
      have hj0 : g.st[j]? = some 0 := hj
      rw [show j = g.op.toNat by omega, h1] at hj0
      injection hj0 with hj0
      omega
  · show lk (app g.op g.page B (Fm.frame kind (g.next - 1) data) (Fm.pages data.length B) g.M) g.op p = none
    have hp' : g.page + (Fm.pages data.length B : Int) ≤ p := hp
    rw [lk_app (by omega)]
    exact h.behind h0 p (by omega)
theorem pages_pos (n : Nat) {B : Nat} (hB : 1 ≤ B) : 1 ≤ Fm.pages n B := (Fm.pages_iff (n := n) (k := 0) hB).2 (by omega)
theorem pages_le (n : Nat) {B : Nat} (hB : 16 ≤ B) : Fm.pages n B ≤ n / 16 + 2 := by
  by_cases h : Fm.pages n B ≤ n / 16 + 2
  · exact h
  · have := (Fm.pages_iff (n := n) (k := n / 16 + 2) (by omega : 1 ≤ B)).1 (by omega)
    have h2 : (n / 16 + 2) * 16 ≤ (n / 16 + 2) * B := Nat.mul_le_mul_left _ hB
    omega
theorem pages_head {B : Nat} (hB : 16 ≤ B) : Fm.pages 0 B = 1 := by
  have h1 := pages_pos 0 (by omega : 1 ≤ B)
  have h2 : ¬ 1 < Fm.pages 0 B := fun h => by
    have := (Fm.pages_iff (n := 0) (k := 1) (by omega : 1 ≤ B)).1 h
    omega
  omega
theorem perr_ready {kind : UInt8} {data : List UInt8} {need : Nat} (h : Inv S P B g) (hn : 1 ≤ need) (he : perr P B kind data need g = 0) :
    Inv S P B (ready P B data.length g) ∧ 0 ≤ (ready P B data.length g).op ∧ (ready P B data.length g).page + (Fm.pages data.length B : Int) ≤ (P : Int) := by
  unfold perr at he
  split at he
  · omega
  split at he
  · omega
  rename_i h1 h2
  unfold ready
  split at he
  · rename_i hr
    rw [if_pos hr]
    unfold room at hr
    simp only [Bool.and_eq_true, decide_eq_true_eq] at hr
    exact ⟨h, hr.1, hr.2⟩
  · rename_i hr
    rw [if_neg hr]
    split at he
    · omega
    · refine ⟨h.opened (by omega), ?_, ?_⟩
      · show (0 : Int) ≤ ((ix 0 g.st : Nat) : Int); omega
      · show (1 : Int) + (Fm.pages data.length B : Int) ≤ (P : Int); omega
theorem Inv.put {kind : UInt8} {data : List UInt8} {need : Nat} (h : Inv S P B g) (hn : 1 ≤ need) : Inv S P B (putG P B kind data need g) := by
  unfold putG
  split
  · rename_i he
    obtain ⟨h1, h2, h3⟩ := perr_ready h hn he
    exact h1.laid h2 kind data h3
  · exact h
theorem lk_erase (s s2 p2 : Int) (M : List Pg) (h : lk M s2 p2 = none ∨ s2 = s) : lk (erase s M) s2 p2 = none := by
  rw [lk_none]
  intro q hq
  obtain ⟨hm, hne⟩ := List.mem_filter.1 hq
  rcases h with h | rfl
  · exact lk_none.1 h q hm
  · rw [at_not]
    intro e
    simp only [addr, Prod.mk.injEq] at e
    simp [e.1] at hne
theorem Inv.erase (h : Inv S P B g) (s : Int) : Inv S P B (eraseG S s g) := by
  unfold eraseG
  split
  · rename_i he
    unfold eraseErr at he
    split at he
    · rename_i hin
      split at he
      · omega
      · rename_i hne
        refine ⟨h.shp, ?_, h.ok.filter _, fun h0 => ?_, fun h0 => ?_, fun j hj p => ?_, fun h0 p hp => ?_, fun x hx => ?_⟩
        · show (g.st.set s.toNat 0).length = S
          rw [List.length_set]; exact h.len
        · obtain ⟨a, b, c⟩ := h.noneO h0
          refine ⟨a, b, fun j hj => ?_⟩
          rcases get_set hj with ⟨_, _, e⟩ | ⟨_, e⟩
          · omega
          · exact c j e
        · have h0' : 0 ≤ g.op := h0
          obtain ⟨a, b, c⟩ := h.someO h0'
          refine ⟨?_, fun j hj => ?_, c⟩
          · show (g.st.set s.toNat 0)[g.op.toNat]? = _
            rw [List.getElem?_set_ne (by omega)]
            exact a
          · rcases get_set hj with ⟨_, _, e⟩ | ⟨_, e⟩
            · omega
            · exact b j e
        · show lk (Fl.erase s g.M) (j : Int) p = none
          rcases get_set hj with ⟨e, _, _⟩ | ⟨_, e⟩
          · exact lk_erase _ _ _ _ (.inr (by omega))
          · exact lk_erase _ _ _ _ (.inl (h.free j e p))
        · exact lk_erase _ _ _ _ (.inl (h.behind h0 p hp))
        · rcases mem_set hx with e | e
          · exact .inl e
          · exact h.vals x e
    · omega
  · exact h
theorem Inv.sync (h : Inv S P B g) : Inv S P B (syncG g) :=
  ⟨h.shp, h.len, h.ok.sync, h.noneO, h.someO, fun j hj p => by
    show lk (Fl.sync g.M) (j : Int) p = none
    rw [lk_sync]; exact h.free j hj p, fun h0 p hp => by
    show lk (Fl.sync g.M) g.op p = none
    rw [lk_sync]; exact h.behind h0 p hp, h.vals⟩
end
end Go.Proofs.YtndbjdnfibpicaaR.Lo
