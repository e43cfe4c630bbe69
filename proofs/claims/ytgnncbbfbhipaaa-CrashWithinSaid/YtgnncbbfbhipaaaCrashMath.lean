/-
  Plain mathematics: what may be left of a page; the places of the pages, sorted; a device within another one, behind a crash, the same.
-/
import Derived.Test.YtgnncbbfbhipaaaCrashWithinL
import Derived.Test.YtgnncbbfbhipaaaFlashRefCrash
namespace Go.Proofs.Ytgnncbbfbhipaaa
open Fl

/-! what may be left of a page -/
theorem cmn_le : ∀ (x y : List UInt8), cmn x y ≤ x.length
  | [], _ => by unfold cmn; exact Nat.le_refl _
  | a :: x, [] => by unfold cmn; exact Nat.zero_le _
  | a :: x, b :: y => by
    have := cmn_le x y
    unfold cmn
    split <;> simp <;> omega
theorem cmn_take : ∀ (x y : List UInt8), x.take (cmn x y) = y.take (cmn x y)
  | [], [] => rfl
  | [], b :: y => by simp [cmn]
  | a :: x, [] => by simp [cmn]
  | a :: x, b :: y => by
    unfold cmn
    split
    · rename_i h
      rw [List.take_succ_cons, List.take_succ_cons, cmn_take x y, h]
    · simp
theorem cmn_ge : ∀ (x y : List UInt8) (n : Nat), x.take n = y.take n → n ≤ x.length → n ≤ y.length → n ≤ cmn x y
  | _, _, 0, _, _, _ => Nat.zero_le _
  | [], _, n + 1, _, h, _ => by simp at h
  | a :: x, [], n + 1, _, _, h => by simp at h
  | a :: x, b :: y, n + 1, ht, h1, h2 => by
    simp only [List.take_succ_cons, List.cons.injEq] at ht
    have := cmn_ge x y n ht.2 (by simpa using h1) (by simpa using h2)
    unfold cmn
    rw [if_pos ht.1]
    omega
theorem cmn_comm : ∀ (x y : List UInt8), cmn x y = cmn y x
  | [], [] => rfl
  | [], b :: y => by simp [cmn]
  | a :: x, [] => by simp [cmn]
  | a :: x, b :: y => by
    unfold cmn
    by_cases h : a = b
    · rw [if_pos h, if_pos h.symm, cmn_comm x y]
    · rw [if_neg h, if_neg (fun e => h e.symm)]
/-- whether x may be left of y -/
def lft (x y : List UInt8) : Bool := (x.drop (cmn x y)).all fun z => decide (z = 255)
theorem all_ff {l : List UInt8} : (l.all fun z => decide (z = 255)) = true ↔ l = List.replicate l.length 255 := by
  rw [List.all_eq_true, List.eq_replicate_iff]
  simp
theorem lft_refl (x : List UInt8) : lft x x = true := by
  have h := cmn_ge x x x.length rfl (Nat.le_refl _) (Nat.le_refl _)
  unfold lft
  rw [List.drop_eq_nil_of_le h]
  rfl
theorem lft_of {x y : List UInt8} {n : Nat} (h : x.take n = y.take n) (h1 : n ≤ x.length) (h2 : n ≤ y.length) (hf : ((x.drop n).all fun z => decide (z = 255)) = true) : lft x y = true := by
  have hc := cmn_ge x y n h h1 h2
  unfold lft
  rw [List.all_eq_true] at hf ⊢
  intro z hz
  refine hf z ?_
  have e : x.drop (cmn x y) = (x.drop n).drop (cmn x y - n) := by rw [List.drop_drop]; congr 1; omega
  rw [e] at hz
  exact List.mem_of_mem_drop hz
theorem lft_anti {x y : List UInt8} (hl : x.length = y.length) (h1 : lft x y = true) (h2 : lft y x = true) : x = y := by
  unfold lft at h1 h2
  rw [cmn_comm y x] at h2
  rw [all_ff] at h1 h2
  rw [← List.take_append_drop (cmn x y) x, cmn_take, h1]
  conv => rhs; rw [← List.take_append_drop (cmn x y) y, h2]
  simp [hl]
/-- taken away from behind, what is left holds just what lft says -/
theorem lft_is {x y : List UInt8} {n : Nat} (hl : x.length = y.length) (hn : n ≤ x.length) (hf : ((x.drop n).all fun z => decide (z = 255)) = true) (hx : n = 0 ∨ ∃ h : n - 1 < x.length, x[n - 1] ≠ 255) : decide (y.take n = x.take n) = lft x y := by
  by_cases h : y.take n = x.take n
  · rw [decide_eq_true h, lft_of h.symm hn (by omega) hf]
  · rw [decide_eq_false h]
    cases hb : lft x y
    · rfl
    · exfalso
      have hc : cmn x y < n := by
        rcases Nat.lt_or_ge (cmn x y) n with h3 | h3
        · exact h3
        · exfalso
          apply h
          have e := congrArg (List.take n) (cmn_take x y)
          rw [List.take_take, List.take_take, Nat.min_eq_left h3] at e
          exact e.symm
      rcases hx with rfl | ⟨h4, h5⟩
      · omega
      · apply h5
        unfold lft at hb
        rw [List.all_eq_true] at hb
        have := hb x[n - 1] (by
          rw [List.mem_iff_getElem]
          refine ⟨n - 1 - cmn x y, by rw [List.length_drop]; omega, ?_⟩
          rw [List.getElem_drop]
          congr 1
          omega)
        simpa using this
theorem full_split (B : Nat) (l : List UInt8) (n : Nat) (hn : n ≤ l.length) (hl : l.length ≤ B) : (full B l).take n = l.take n := by
  unfold full
  rw [List.take_of_length_le hl, List.take_append_of_le_length hn]
theorem full_behind (B : Nat) (l : List UInt8) (hl : l.length ≤ B) : ((full B l).drop l.length).all (fun z => decide (z = 255)) = true := by
  unfold full
  rw [List.take_of_length_le hl, List.drop_left, List.all_eq_true]
  intro z hz
  have := (List.mem_replicate.1 hz).2
  simpa using this
theorem lft_cut {B : Nat} {r : List UInt8} (hr : r.length ≤ B) (n : Nat) : lft (full B (r.take n)) (full B r) = true := by
  have hl : (r.take n).length = min n r.length := List.length_take
  refine lft_of (n := (r.take n).length) ?_ (by rw [full_length]; omega) (by rw [full_length]; omega) (full_behind B _ (by omega))
  rw [full_split B _ _ (Nat.le_refl _) (by omega), full_split B _ _ (by omega) hr, List.take_take]
  congr 1
  omega

/-! the places of the pages, by rising segments, then pages -/
def row1 (M : List Pg) (s p : Nat) : List (Int × Int) := if (lk M s p).isSome then [((s : Int), (p : Int))] else []
def row (M : List Pg) (s P : Nat) : List (Int × Int) := (List.range P).flatMap fun p => row1 M s p
def pgs (M : List Pg) (P S : Nat) : List (Int × Int) := (List.range S).flatMap fun s => row M s P
theorem row_zero (M : List Pg) (s : Nat) : row M s 0 = [] := rfl
theorem row_succ (M : List Pg) (s p : Nat) : row M s (p + 1) = row M s p ++ row1 M s p := by
  unfold row
  rw [List.range_succ, List.flatMap_append]
  simp
theorem pgs_zero (M : List Pg) (P : Nat) : pgs M P 0 = [] := rfl
theorem pgs_succ (M : List Pg) (P s : Nat) : pgs M P (s + 1) = pgs M P s ++ row M s P := by
  unfold pgs
  rw [List.range_succ, List.flatMap_append]
  simp
theorem mem_row1 {M : List Pg} {s p : Nat} {a : Int × Int} : a ∈ row1 M s p ↔ a = ((s : Int), (p : Int)) ∧ (lk M s p).isSome = true := by
  unfold row1
  split
  · rename_i h
    simp [h]
  · rename_i h
    simp [h]
theorem mem_row {M : List Pg} {s P : Nat} {a : Int × Int} : a ∈ row M s P ↔ ∃ p : Nat, p < P ∧ a = ((s : Int), (p : Int)) ∧ (lk M s p).isSome = true := by
  unfold row
  rw [List.mem_flatMap]
  simp only [List.mem_range, mem_row1]
theorem mem_pgs {M : List Pg} {S P : Nat} {a : Int × Int} : a ∈ pgs M P S ↔ ∃ s p : Nat, s < S ∧ p < P ∧ a = ((s : Int), (p : Int)) ∧ (lk M s p).isSome = true := by
  unfold pgs
  rw [List.mem_flatMap]
  simp only [List.mem_range, mem_row]
  constructor
  · rintro ⟨s, hs, p, hp, h⟩
    exact ⟨s, p, hs, hp, h⟩
  · rintro ⟨s, p, hs, hp, h⟩
    exact ⟨s, hs, p, hp, h⟩
def lx (a b : Int × Int) : Prop := a.1 < b.1 ∨ a.1 = b.1 ∧ a.2 < b.2
theorem row_sorted (M : List Pg) (s : Nat) : ∀ P, (row M s P).Pairwise lx
  | 0 => by rw [row_zero]; exact List.Pairwise.nil
  | P + 1 => by
    rw [row_succ, List.pairwise_append]
    refine ⟨row_sorted M s P, ?_, fun a ha b hb => ?_⟩
    · unfold row1
      split <;> simp
    · obtain ⟨p, hp, rfl, -⟩ := mem_row.1 ha
      obtain ⟨rfl, -⟩ := mem_row1.1 hb
      exact .inr ⟨rfl, by show (p : Int) < P; omega⟩
theorem pgs_sorted (M : List Pg) (P : Nat) : ∀ S, (pgs M P S).Pairwise lx
  | 0 => by rw [pgs_zero]; exact List.Pairwise.nil
  | S + 1 => by
    rw [pgs_succ, List.pairwise_append]
    refine ⟨pgs_sorted M P S, row_sorted M S P, fun a ha b hb => ?_⟩
    obtain ⟨s, p, hs, hp, rfl, -⟩ := mem_pgs.1 ha
    obtain ⟨q, hq, rfl, -⟩ := mem_row.1 hb
    exact .inl (by show (s : Int) < S; omega)
theorem pgs_nodup (M : List Pg) (P S : Nat) : (pgs M P S).Nodup := by
  rw [List.nodup_iff_pairwise_ne]
  refine (pgs_sorted M P S).imp fun {a b} h e => ?_
  subst e
  unfold lx at h
  omega
theorem lk_isSome {M : List Pg} {s p : Int} : (lk M s p).isSome = true ↔ (s, p) ∈ M.map addr := by
  rw [List.mem_map]
  constructor
  · intro h
    obtain ⟨r, hr⟩ := Option.isSome_iff_exists.1 h
    obtain ⟨j, hj, h1, h2, -⟩ := lk_some hr
    exact ⟨M[j], List.getElem_mem hj, by unfold addr; rw [h1, h2]⟩
  · rintro ⟨q, hq, he⟩
    cases hl : lk M s p with
    | some r => rfl
    | none =>
      have := lk_none.1 hl q hq
      rw [at_not] at this
      exact absurd he this
theorem addrs_nodup {M : List Pg} (h : Ap M) : (M.map addr).Nodup := by
  rw [List.nodup_iff_pairwise_ne, List.pairwise_map]
  exact h
theorem pgs_perm {S P B : Nat} {M : List Pg} (h : Ok S P B M) : (pgs M P S).Perm (M.map addr) := by
  rw [List.perm_ext_iff_of_nodup (pgs_nodup M P S) (addrs_nodup h.ap)]
  intro a
  rw [mem_pgs]
  constructor
  · rintro ⟨s, p, -, -, rfl, h1⟩
    exact lk_isSome.1 h1
  · intro ha
    obtain ⟨q, hq, rfl⟩ := List.mem_map.1 ha
    have hr := h.rng q hq
    refine ⟨q.seg.toNat, q.page.toNat, ?_, ?_, ?_, ?_⟩
    · have := hr.s0
      have := hr.s1
      omega
    · have := hr.p0
      have := hr.p1
      omega
    · unfold addr
      have := hr.s0
      have := hr.p0
      rw [Int.toNat_of_nonneg hr.s0, Int.toNat_of_nonneg hr.p0]
    · rw [Int.toNat_of_nonneg hr.s0, Int.toNat_of_nonneg hr.p0, lk_mem h.ap hq]
      rfl
theorem pgs_length {S P B : Nat} {M : List Pg} (h : Ok S P B M) : (pgs M P S).length = M.length := by
  rw [(pgs_perm h).length_eq, List.length_map]
theorem pgs_lk {M : List Pg} {S P : Nat} {a : Int × Int} (h : a ∈ pgs M P S) : (lk M a.1 a.2).isSome = true ∧ 0 ≤ a.1 ∧ a.1 < S ∧ 0 ≤ a.2 ∧ a.2 < P := by
  obtain ⟨s, p, hs, hp, rfl, h1⟩ := mem_pgs.1 h
  refine ⟨h1, ?_, ?_, ?_, ?_⟩ <;> simp only <;> omega

/-! within -/
def wat (B : Nat) (M N : List Pg) (a : Int × Int) : Bool := match lk N a.1 a.2 with | none => false | some r => lft (full B ((lk M a.1 a.2).getD [])) (full B r)
theorem wat_page {B : Nat} {M N : List Pg} (h : Ap M) {q : Pg} (hq : q ∈ M) : wat B M N (addr q) = within1 B N q := by
  unfold wat within1 addr
  simp only [lk_mem h hq, Option.getD_some]
  rfl
theorem withinB_pgs {S P B : Nat} {M N : List Pg} (h : Ok S P B M) : (pgs M P S).all (wat B M N) = withinB B M N := by
  unfold withinB
  rw [Bool.eq_iff_iff, List.all_eq_true, List.all_eq_true]
  constructor
  · intro h1 q hq
    rw [← wat_page h.ap hq]
    exact h1 _ ((pgs_perm h).mem_iff.2 (List.mem_map_of_mem hq))
  · intro h1 a ha
    obtain ⟨q, hq, rfl⟩ := List.mem_map.1 ((pgs_perm h).mem_iff.1 ha)
    rw [wat_page h.ap hq]
    exact h1 q hq
theorem within1_at {B : Nat} {N : List Pg} (h : Ap N) {q z : Pg} (hz : z ∈ N) (ha : addr z = addr q) : within1 B N q = lft (full B q.raw) (full B z.raw) := by
  unfold addr at ha
  injection ha with h1 h2
  unfold within1
  rw [← h1, ← h2, lk_mem h hz]
  rfl
theorem within1_has {B : Nat} {N : List Pg} {q : Pg} (h : within1 B N q = true) : addr q ∈ N.map addr := by
  have : (lk N q.seg q.page).isSome = true := by
    unfold within1 at h
    cases hl : lk N q.seg q.page with
    | none => rw [hl] at h; simp at h
    | some r => rfl
  exact lk_isSome.1 this
theorem withinB_refl {B : Nat} {M : List Pg} (h : Ap M) : withinB B M M = true := by
  unfold withinB
  rw [List.all_eq_true]
  intro q hq
  rw [within1_at h hq rfl]
  exact lft_refl _
theorem both_alike {B : Nat} {M N : List Pg} (hM : Ap M) (hN : Ap N) (h1 : withinB B M N = true) (h2 : withinB B N M = true) : alikeB B M N = true := by
  unfold withinB at h1 h2
  unfold alikeB
  rw [List.all_eq_true] at h1 h2 ⊢
  intro q hq
  unfold alike1
  cases hl : lk N q.seg q.page with
  | none => rfl
  | some r =>
    obtain ⟨j, hj, e1, e2, e3⟩ := lk_some hl
    have hz := List.getElem_mem hj
    have ha : addr N[j] = addr q := by unfold addr; rw [e1, e2]
    have x1 := h1 q hq
    have x2 := h2 _ hz
    rw [within1_at hN hz ha] at x1
    rw [within1_at hM hq ha.symm] at x2
    rw [← e3]
    simpa using lft_anti (by rw [full_length, full_length]) x1 x2

/-! behind a crash -/
theorem crash_from (f : Nat → Nat) (M : List Pg) : ∀ i z, z ∈ crash f i M → ∃ q ∈ M, addr z = addr q ∧ ∃ n, z.raw = q.raw.take n := by
  induction M with
  | nil => intro i z hz; cases hz
  | cons y L ih =>
    intro i z hz
    unfold crash at hz
    split at hz
    · split at hz
      · obtain ⟨q, hq, h⟩ := ih _ _ hz
        exact ⟨q, by simp [hq], h⟩
      · rcases List.mem_cons.1 hz with rfl | hz
        · exact ⟨y, by simp, rfl, _, rfl⟩
        · obtain ⟨q, hq, h⟩ := ih _ _ hz
          exact ⟨q, by simp [hq], h⟩
    · rcases List.mem_cons.1 hz with rfl | hz
      · exact ⟨z, by simp, rfl, z.raw.length, by rw [List.take_of_length_le (Nat.le_refl _)]⟩
      · obtain ⟨q, hq, h⟩ := ih _ _ hz
        exact ⟨q, by simp [hq], h⟩
theorem crash_addrs (f : Nat → Nat) (M : List Pg) : ∀ i, ((crash f i M).map addr).Sublist (M.map addr) := by
  induction M with
  | nil => intro i; exact List.Sublist.slnil
  | cons y L ih =>
    intro i
    unfold crash
    split
    · split
      · exact (ih _).cons _
      · exact (ih _).cons_cons _
    · exact (ih _).cons_cons _
theorem crash_within {S P B : Nat} {M : List Pg} (h : Ok S P B M) (f : Nat → Nat) : withinB B (crash f 0 M) M = true := by
  unfold withinB
  rw [List.all_eq_true]
  intro z hz
  obtain ⟨q, hq, ha, n, hn⟩ := crash_from f M 0 z hz
  rw [within1_at h.ap hq ha.symm, hn]
  exact lft_cut (h.rng q hq).len n
/-- what the law asks: as many pages, and the same bytes in each that is left -/
def sameB (B : Nat) (M C : List Pg) : Bool := decide (M.length = C.length) && C.all fun z => decide (full B z.raw = full B ((lk M z.seg z.page).getD []))
theorem lk_at {M : List Pg} (h : Ap M) {q : Pg} (hq : q ∈ M) {z : Pg} (ha : addr z = addr q) : lk M z.seg z.page = some q.raw := by
  unfold addr at ha
  injection ha with h1 h2
  rw [h1, h2]
  exact lk_mem h hq
theorem crash_same {S P B : Nat} {M : List Pg} (h : Ok S P B M) (f : Nat → Nat) : (withinB B (crash f 0 M) M && withinB B M (crash f 0 M)) = sameB B M (crash f 0 M) := by
  have hC : Ok S P B (crash f 0 M) := h.crash f
  rw [crash_within h f, Bool.true_and, Bool.eq_iff_iff]
  have hsub := crash_addrs f M 0
  have hfrom := crash_from f M 0
  have hw := crash_within h f
  generalize crash f 0 M = C at *
  unfold sameB
  rw [Bool.and_eq_true, decide_eq_true_eq]
  unfold withinB at hw ⊢
  rw [List.all_eq_true] at hw
  rw [List.all_eq_true, List.all_eq_true]
  constructor
  · intro h1
    refine ⟨?_, fun z hz => ?_⟩
    · have a := List.Nodup.length_le_of_subset (addrs_nodup h.ap) (l₂ := C.map addr) (fun a ha => by
        obtain ⟨q, hq, rfl⟩ := List.mem_map.1 ha
        exact within1_has (h1 q hq))
      have b := hsub.length_le
      simp only [List.length_map] at a b
      omega
    · obtain ⟨q, hq, ha, -⟩ := hfrom z hz
      have x1 := h1 q hq
      have x2 := hw z hz
      rw [within1_at hC.ap hz ha] at x1
      rw [within1_at h.ap hq ha.symm] at x2
      rw [lk_at h.ap hq ha, Option.getD_some]
      simpa using lft_anti (by rw [full_length, full_length]) x2 x1
  · rintro ⟨hl, h1⟩ q hq
    have he := hsub.eq_of_length (by rw [List.length_map, List.length_map, hl])
    have hm : addr q ∈ C.map addr := by rw [he]; exact List.mem_map_of_mem hq
    obtain ⟨z, hz, ha⟩ := List.mem_map.1 hm
    have x := h1 z hz
    rw [lk_at h.ap hq ha, Option.getD_some, decide_eq_true_eq] at x
    rw [within1_at hC.ap hz ha, x]
    exact lft_refl _
/-- a plan that keeps all, and tears none -/
theorem all_bits : ∀ i, i < 64 → 18446744073709551615 / 2 ^ i % 2 = 1 := by decide
theorem keep_all (B i : Nat) (h : i < 64) : keep B 18446744073709551615 (-1) 0 i = B := by
  unfold keep
  rw [if_neg (by omega), if_pos (all_bits i h)]
theorem crash_all {S P B : Nat} (hB : B ≠ 0) (f : Nat → Nat) (M : List Pg) : ∀ i, (∀ q ∈ M, In S P B q) → (∀ j, j < i + (dirt M).length → f j = B) → crash f i M = sync M := by
  induction M with
  | nil => intro i _ _; rfl
  | cons q L ih =>
    intro i hr hf
    have hq := hr q (by simp)
    have hL : ∀ q ∈ L, In S P B q := fun q hq => hr q (by simp [hq])
    unfold crash
    cases hd : q.dirty
    · have e : dirt (q :: L) = dirt L := by simp [dirt, hd]
      rw [e] at hf
      simp only [Bool.false_eq_true, if_false]
      rw [ih i hL hf]
      unfold sync
      rw [List.map_cons]
      congr 1
      cases q
      simp at hd
      simp [hd]
    · have e : (dirt (q :: L)).length = (dirt L).length + 1 := by simp [dirt, hd]
      rw [e] at hf
      simp only [if_true]
      rw [hf i (by omega), if_neg hB, ih (i + 1) hL (fun j hj => hf j (by omega)), List.take_of_length_le hq.len]
      rfl
theorem sync_same {S P B : Nat} {M : List Pg} (h : Ok S P B M) : withinB B (sync M) M = true ∧ withinB B M (sync M) = true := by
  have hs := h.sync
  have he : (sync M).map addr = M.map addr := by simp [sync, addr]
  constructor
  · unfold withinB
    rw [List.all_eq_true]
    intro z hz
    obtain ⟨q, hq, rfl⟩ := List.mem_map.1 hz
    rw [within1_at (q := { q with dirty := false }) h.ap hq rfl]
    exact lft_refl _
  · unfold withinB
    rw [List.all_eq_true]
    intro q hq
    rw [within1_at hs.ap (q := q) (z := { q with dirty := false }) (List.mem_map_of_mem hq) rfl]
    exact lft_refl _
theorem all_same {S P B : Nat} {M : List Pg} (h : Ok S P B M) (hB : B ≠ 0) (hd : (dirt M).length ≤ 64) : (withinB B (crash (keep B 18446744073709551615 (-1) 0) 0 M) M && withinB B M (crash (keep B 18446744073709551615 (-1) 0) 0 M)) = true := by
  rw [crash_all (S := S) (P := P) hB _ M 0 h.rng (fun j hj => keep_all B j (by omega)), (sync_same h).1, (sync_same h).2]
  rfl
end Go.Proofs.Ytgnncbbfbhipaaa
