/-
  The document's own row of places: how it lies, what stays of it; Place.
-/
import Derived.Test.YtlhkcfhhgcmieaaCkLay
import Derived.Test.YtlhkcfhhgcmieaaNumsTo
import Derived.Test.YtlhkcfhhgcmieaaAppendRows
import Derived.LoopTactic
import Derived.KernelRfl
namespace Go.Proofs.Ytlhkcfhhgcmieaa
open Go.ChangeShapes Go.WideShapes Go.ChangeAt Go.RowKit
set_option maxRecDepth 100000

theorem sit_parts : ∃ i z, Try.prog.info? 36 = some i ∧ i.zero = some z ∧ z.cells.size = 2 ∧ i.size = 2 ∧ i.bytes = 16 := by
  have h : (Try.prog.info? 36).map (fun i => (i.zero.map (·.cells.size), i.size, i.bytes)) = some (some 2, 2, 16) := by kernel_rfl
  cases hi : Try.prog.info? 36 with
  | none => rw [hi] at h; cases h
  | some i =>
    rw [hi] at h
    simp only [Option.map_some, Option.some.injEq, Prod.mk.injEq] at h
    obtain ⟨h1, h2, h3⟩ := h
    cases hz : i.zero with
    | none => rw [hz] at h1; cases h1
    | some z =>
      rw [hz] at h1
      exact ⟨i, z, rfl, hz, by simpa using h1, h2, h3⟩
/-- a row of places in a block of its own, from block B on -/
def SitRow (W : World) (B : Nat) (v : Value) (l : List Ck.Sit) : Prop :=
  ∃ A c, v = .slice A l.length c ∧ l.length ≤ c ∧ (A = none → c = 0) ∧ ∀ ad, A = some ad → ∃ g cur, ad = ⟨g, 0, none⟩ ∧ B ≤ g ∧ Bx W g 36 cur ∧ cur.take (l.length * 2) = sitV l
theorem SitRow.nil (W : World) (B : Nat) : SitRow W B (.slice none 0 0) [] := ⟨none, 0, rfl, Nat.le_refl _, fun _ => rfl, fun ad h => by cases h⟩
section
variable {W W' : World} {B : Nat} {v : Value} {l : List Ck.Sit}
theorem SitRow.mono (h : SitRow W B v l) {B' : Nat} (hB : B' ≤ B) : SitRow W B' v l := by
  obtain ⟨A, c, h1, h2, h3, h4⟩ := h
  refine ⟨A, c, h1, h2, h3, fun ad e => ?_⟩
  obtain ⟨g, cur, k1, k2, k3, k4⟩ := h4 ad e
  exact ⟨g, cur, k1, by omega, k3, k4⟩
theorem SitRow.below (h : SitRow W B v l) (hb : Below W.heap.size W W') : SitRow W' B v l := by
  obtain ⟨A, c, h1, h2, h3, h4⟩ := h
  refine ⟨A, c, h1, h2, h3, fun ad e => ?_⟩
  obtain ⟨g, cur, k1, k2, k3, k4⟩ := h4 ad e
  exact ⟨g, cur, k1, k2, k3.below hb k3.lt, k4⟩
/-- a block of another type is written -/
theorem SitRow.other (h : SitRow W B v l) {b : Nat} {T : TypeId} {C : List Value} (hb : Bx W b T C) (hT : T ≠ 36) (hk : ∀ i, i ≠ b → W'.heap[i]? = W.heap[i]?) : SitRow W' B v l := by
  obtain ⟨A, c, h1, h2, h3, h4⟩ := h
  refine ⟨A, c, h1, h2, h3, fun ad e => ?_⟩
  obtain ⟨g, cur, k1, k2, k3, k4⟩ := h4 ad e
  have hne : g ≠ b := fun e => by
    subst e
    have k5 : W.heap[g]? = some (.cells cur.toArray 36 (0, 0)) := k3
    have k6 : W.heap[g]? = some (.cells C.toArray T (0, 0)) := hb
    rw [k5] at k6
    injection k6 with k6
    injection k6 with _ k6
    exact hT k6.symm
  exact ⟨g, cur, k1, k2, (hk g hne).trans k3, k4⟩
theorem SitRow.of_own {n : Nat} (h : W.ownsRow B 36 2 v n (sitV l)) : SitRow W B v l := by
  have hn : n = l.length := by have := h.1; rw [sitV_length] at this; omega
  subst hn
  rcases h.2 with ⟨rfl, h0⟩ | ⟨g, cap, cur, rfl, hB, hg, hc, hm, hs, ht⟩
  · obtain rfl : l = [] := List.eq_nil_of_length_eq_zero h0
    exact SitRow.nil _ _
  · refine ⟨_, cap, rfl, hc, fun e => (by cases e), fun ad e => ?_⟩
    injection e with e
    subst e
    exact ⟨g, cur.toList, rfl, hB, hg, ht⟩
theorem SitRow.cells {A : Option Addr} {n c : Nat} (h : SitRow W B (.slice A n c) l) : n = l.length ∧ n ≤ c ∧ Vs W W.heap.size A (n * 2) (sitV l) := by
  obtain ⟨A', c', h1, h2, h3, h4⟩ := h
  injection h1 with e1 e2 e3
  subst e1 e2 e3
  refine ⟨rfl, h2, sitV_length l, fun h0 => ?_⟩
  cases A with
  | none => have := h3 rfl; omega
  | some ad =>
    obtain ⟨g, cur, k1, k2, k3, k4⟩ := h4 ad rfl
    subst k1
    refine ⟨g, 0, rfl, k3.lt, fun j hj => ?_⟩
    rw [sitV_length] at hj
    rw [Nat.zero_add, k3.at, ← List.getElem?_eq_getElem, ← k4, List.getElem?_take, if_pos hj]
/-- its places, one by one -/
theorem SitRow.at {A : Option Addr} {n c : Nat} (h : SitRow W B (.slice A n c) l) {k : Nat} (hk : k < l.length) : ∃ g, A = some ⟨g, 0, none⟩ ∧ B ≤ g ∧ g < W.heap.size ∧ W.cell? ⟨g, k * 2, none⟩ = some (.int .i64 l[k].1) ∧ W.cell? ⟨g, k * 2 + 1, none⟩ = some (.bool l[k].2) ∧ W.frozen? ⟨g, k * 2 + 1, none⟩ = false := by
  obtain ⟨A', c', h1, h2, h3, h4⟩ := h
  injection h1 with e1 e2 e3
  subst e1 e2 e3
  cases A with
  | none => have := h3 rfl; omega
  | some ad =>
    obtain ⟨g, cur, k1, k2, k3, k4⟩ := h4 ad rfl
    subst k1
    have hc : ∀ j, j < l.length * 2 → cur[j]? = (sitV l)[j]? := fun j hj => by rw [← k4, List.getElem?_take, if_pos hj]
    refine ⟨g, rfl, k2, k3.lt, ?_, ?_, k3.frozen _⟩
    · rw [k3.at, hc _ (by omega)]; exact (sitV_get l k hk).1
    · rw [k3.at, hc _ (by omega)]; exact (sitV_get l k hk).2
/-- a mark is set -/
theorem SitRow.mark {g n c : Nat} (h : SitRow W B (.slice (some ⟨g, 0, none⟩) n c) l) {k : Nat} (hk : k < l.length) (b : Bool) : SitRow (W.setCell ⟨g, k * 2 + 1, none⟩ (.bool b)) B (.slice (some ⟨g, 0, none⟩) n c) (l.set k (l[k].1, b)) := by
  obtain ⟨A', c', h1, h2, h3, h4⟩ := h
  injection h1 with e1 e2 e3
  subst e1 e2 e3
  obtain ⟨g', cur, k1, k2, k3, k4⟩ := h4 _ rfl
  injection k1 with k1
  subst k1
  refine ⟨_, c, by rw [List.length_set], by rw [List.length_set]; exact h2, fun e => (by cases e), fun ad e => ?_⟩
  injection e with e
  subst e
  refine ⟨g, _, rfl, k2, k3.set _ _, ?_⟩
  rw [List.length_set, List.take_set, k4, sitV_setB l k hk]
theorem SitRow.lt {A : Option Addr} {n c : Nat} (h : SitRow W B (.slice A n c) l) {ad : Addr} (e : A = some ad) : ∃ g, ad = ⟨g, 0, none⟩ ∧ B ≤ g ∧ ∃ cur, Bx W g 36 cur := by
  obtain ⟨A', c', h1, h2, h3, h4⟩ := h
  injection h1 with e1 e2 e3
  subst e1 e2 e3
  obtain ⟨g, cur, k1, k2, k3, -⟩ := h4 ad e
  exact ⟨g, k1, k2, cur, k3⟩
end
/-- where an object is, as the document says it -/
def placeI (l : List Ck.Sit) (o : Int) : Int := if Ck.pos l o < l.length then (Ck.pos l o : Int) else -1
set_option maxHeartbeats 1000000 in
theorem place_any {A : Option Addr} {n c B : Nat} {l : List Ck.Sit} {w : World} (h : SitRow w B (.slice A n c) l) (hn : l.length ≤ 1000) (o : Int) : Calls Try.prog 7 #[.slice A n c, .int .i64 o] w fun e w' => e = .returned (.int .i64 (placeI l o)) ∧ Below w.heap.size w w' := by
  have HR := Lib.hid (fun W (hb : Below w.heap.size w W) => h.below hb)
  have HN : Hid (n = l.length) := Lib.hid h.cells.1
  have HN2 := Lib.hid hn
  clear h hn
  go_enter Try.func7, Try.ntmps7
  go_wp2
  go_loopw [9] (fun i wr => ∃ k : Nat, k ≤ n ∧ i = .int .i64 k ∧ Hid (k ≤ Ck.pos l o) ∧ Hid (Below w.heap.size w wr)) (fun i _ => n - (intOf i).toNat)
  case atStart => exact ⟨0, by omega, rfl, Lib.hid (Nat.zero_le _), Lib.hid (Below.refl _ _)⟩
  case round =>
    obtain ⟨k, hk, rfl, HP, HB⟩ := hrel
    by_cases hlt : k < n
    · have hkl : k < l.length := by rw [← HN.out]; exact hlt
      obtain ⟨g, rfl, -, -, e1, e2, -⟩ := (HR.out wr HB.out).at hkl
      obtain ⟨x, hx⟩ : ∃ x, x = l[k].1 := ⟨_, rfl⟩
      obtain ⟨y, hy⟩ : ∃ y, y = l[k].2 := ⟨_, rfl⟩
      rw [← hx] at e1
      rw [← hy] at e2
      have hkn : k ≤ 1000 := by have := HN2.out; omega
      by_cases hxo : x = o
      · have hpos : Ck.pos l o = k := Ck.pos_hit hkl HP.out (by rw [← hx]; exact hxo)
        have HV : Hid (placeI l o = (k : Int)) := Lib.hid (by unfold placeI; rw [hpos, if_pos hkl])
        have ht : (x == o) = true := by simp [hxo]
        clear hx hy hpos hxo hkl
        go_wp2
        go_ret
        exact ⟨by rw [HV.out]; rfl, (HB.out.alloc HB.out.size _)⟩
      · have HP2 := Lib.hid (Ck.pos_miss hkl HP.out (by rw [← hx]; exact hxo))
        have ht : (x == o) = false := by simp [hxo]
        clear hx hy hxo hkl
        go_wp2
        go_roundw
        case rel => exact ⟨k + 1, by omega, by go_num, HP2, Lib.hid (HB.out.alloc HB.out.size _)⟩
        case measure => simp [intOf]; omega
    · have HV : Hid (placeI l o = -1) := Lib.hid (by
        have h1 := HP.out
        have h2 := HN.out
        unfold placeI
        rw [if_neg (by omega)])
      go_wp2
      go_ret
      exact ⟨by rw [HV.out]; rfl, HB.out⟩
/-- a row, cut -/
theorem sit_pre (A : Option Addr) (n c k : Nat) (h : k ≤ c) (w : World) :
    (Instr.slice 30 (.slice A n c) none (some (.int .i64 (k : Int))) none).run Try.prog w = .ok (.slice A k c) w := by
  have h1 := run_slice_h (P := Try.prog) w 30 A n c (by kernel_rfl) .i64 (k : Int) (by omega) (by omega)
  have h2 : (sizeOf (Try.prog.elem 30)).run Try.prog w = .ok 2 w := by kernel_rfl
  have h3 : A.map (·.add 0) = A := by
    cases A with
    | none => rfl
    | some a => obtain ⟨b, o, q⟩ := a; cases q <;> simp [Addr.add]
  rw [h1, h2]
  simp [sliced, Result.andThen, h3]
/-- where the rest of it lies -/
def restN (A : Option Addr) (c k : Nat) : Option Addr := if c = k then A else A.map (·.add (k * 2))
theorem sit_rest (A : Option Addr) (n c k : Nat) (h : k ≤ n) (w : World) :
    (Instr.slice 30 (.slice A n c) (some (.int .i64 (k : Int))) none none).run Try.prog w = .ok (.slice (restN A c k) (n - k) (c - k)) w := by
  have h1 := run_slice_l (P := Try.prog) w 30 A n c (by kernel_rfl) .i64 (k : Int) (by omega) (by omega)
  have h2 : (sizeOf (Try.prog.elem 30)).run Try.prog w = .ok 2 w := by kernel_rfl
  rw [h1, h2]
  simp [sliced, Result.andThen, restN]
theorem Vs.frontS {w : World} {B n : Nat} {A : Option Addr} {l : List Ck.Sit} (h : Vs w B A (n * 2) (sitV l)) {k : Nat} (hk : k ≤ n) : Vs w B A (k * 2) (sitV (l.take k)) := by
  have hl : l.length = n := by have := h.1; rw [sitV_length] at this; omega
  refine ⟨by rw [sitV_length, List.length_take]; omega, fun h0 => ?_⟩
  obtain ⟨b, off, e, hB, hc⟩ := h.2 (by omega)
  refine ⟨b, off, e, hB, fun j hj => ?_⟩
  rw [← List.getElem?_eq_getElem]
  have hj2 : j < (sitV l).length := by rw [sitV_length] at hj ⊢; rw [List.length_take] at hj; omega
  have hj3 : j < k * 2 := by rw [sitV_length, List.length_take] at hj; omega
  rw [hc j hj2, ← sitV_take, List.getElem?_take, if_pos hj3, List.getElem?_eq_getElem hj2]
theorem Vs.backS {w : World} {B n c : Nat} {A : Option Addr} {l : List Ck.Sit} (h : Vs w B A (n * 2) (sitV l)) {k : Nat} (hk : k ≤ n) (hc : n ≤ c) : Vs w B (restN A c k) ((n - k) * 2) (sitV (l.drop k)) := by
  have hl : l.length = n := by have := h.1; rw [sitV_length] at this; omega
  refine ⟨by rw [sitV_length, List.length_drop]; omega, fun h0 => ?_⟩
  obtain ⟨b, off, rfl, hB, hcell⟩ := h.2 (by omega)
  unfold restN
  rw [if_neg (by omega)]
  refine ⟨b, off + k * 2, ?_, hB, fun j hj => ?_⟩
  · rw [Option.map_some, Addr.add_mid]
  rw [sitV_length, List.length_drop] at hj
  rw [← List.getElem?_eq_getElem, ← sitV_drop, List.getElem?_drop, Nat.add_assoc]
  have hj2 : k * 2 + j < (sitV l).length := by rw [sitV_length]; omega
  rw [hcell (k * 2 + j) hj2, List.getElem?_eq_getElem hj2]
end Go.Proofs.Ytlhkcfhhgcmieaa
