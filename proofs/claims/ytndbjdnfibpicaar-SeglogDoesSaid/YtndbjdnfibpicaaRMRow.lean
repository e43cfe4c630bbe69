/-
  What comes in, as the row's step opens it: a shape (a struct of three numbers); a list out of what each place has.
  What comes in, as the row's step opens it: a slice of layer 15's deeds.
-/
import Derived.Test.YtndbjdnfibpicaaRMMany
import Derived.Test.YtndbjdnfibpicaaRMBytes
import Derived.WalkKit
import Derived.ProofKit
import Derived.OpenShut
import Derived.ChangeArms
import Derived.ChangeSame
import Derived.ChangeSlices
import Derived.Deep.Slices
import Derived.Deep.Strs
import Derived.Lib.SmallJoins
import Derived.Test.YtndbjdnfibpicaaRLogDeeds
section
namespace Go.Proofs.YtndbjdnfibpicaaR
open Go.ChangeShapes Go.WideShapes Go.ChangeAt Go.RowKit Go.Deep
set_option maxRecDepth 100000

theorem cells23 : Try.prog.cellsOf 23 = 3 := by kernel_rfl
theorem list_of {α : Type} {R : Nat → α → Prop} : ∀ (n : Nat), (∀ i, i < n → ∃ p, R i p) → ∃ L : List α, L.length = n ∧ ∀ j (h : j < L.length), R j L[j]
  | 0, _ => ⟨[], rfl, fun j h => absurd h (by simp)⟩
  | n + 1, h => by
    obtain ⟨L, hl, hr⟩ := list_of n fun i hi => h i (by omega)
    obtain ⟨p, hp⟩ := h n (by omega)
    refine ⟨L ++ [p], by simp [hl], fun j hj => ?_⟩
    by_cases e : j < L.length
    · rw [List.getElem_append_left e]; exact hr j e
    · have : j = n := by simp at hj; omega
      subst this
      rw [List.getElem_append_right (by omega)]
      simpa [hl] using hp
section
variable {H : Type} {enc : TypeId × Value → H} {w : World} {base : Nat} {spare : Nat → Bool} {held : Bool}
theorem open_shape {r : Reach} {b0 : Nat} {v : Value} {d : DataW H} {p : List MemPlace} (hv : Value.okWide Try.prog w r b0 23 v) (h : DataW.Trod enc Try.prog w base spare held 23 v d p) :
    ∃ a b c : Int, v = .agg #[.int .i64 a, .int .i64 b, .int .i64 c] ∧ d = .agg [.lit (.int .i64 a), .lit (.int .i64 b), .lit (.int .i64 c)] ∧ p = [] ∧ W64 a ∧ W64 b ∧ W64 c := by
  obtain ⟨x0, x1, x2, y0, y1, y2, m, rfl, rfl, rfl, h0, h1, h2⟩ := Joins.open_agg3 Try.underlying23 (by kernel_rfl) cells23 hv h
  obtain ⟨a, ea, rfl, ha⟩ := DataW.trod_int Try.underlying3 h0
  obtain ⟨b, eb, rfl, hb⟩ := DataW.trod_int Try.underlying3 h1
  obtain ⟨c, ec, rfl, hc⟩ := DataW.trod_int Try.underlying3 h2
  obtain rfl : x0 = .int .i64 a := by simpa using ea
  obtain rfl : x1 = .int .i64 b := by simpa using eb
  obtain rfl : x2 = .int .i64 c := by simpa using ec
  exact ⟨a, b, c, rfl, rfl, rfl, ha, hb, hc⟩
theorem shut_shape {a b c : Int} (ha : W64 a) (hb : W64 b) (hc : W64 c) :
    DataW.Trod enc Try.prog w base spare held 23 (.agg #[.int .i64 a, .int .i64 b, .int .i64 c]) (.agg [.lit (.int .i64 a), .lit (.int .i64 b), .lit (.int .i64 c)]) [] := by
  have h0 := trod_int_mk (enc := enc) (w := w) (base := base) (spare := spare) (held := held) 1 Try.underlying3 ha
  have h1 := trod_int_mk (enc := enc) (w := w) (base := base) (spare := spare) (held := held) 1 Try.underlying3 hb
  have h2 := trod_int_mk (enc := enc) (w := w) (base := base) (spare := spare) (held := held) 1 Try.underlying3 hc
  exact Joins.shut_agg3 (y0 := (.lit (.int .i64 a), [])) (y1 := (.lit (.int .i64 b), [])) (y2 := (.lit (.int .i64 c), [])) Try.underlying23 (by kernel_rfl) cells23 ⟨_, h0⟩ ⟨_, h1⟩ ⟨_, h2⟩
end
end Go.Proofs.YtndbjdnfibpicaaR
end
section
namespace Go.Proofs.YtndbjdnfibpicaaR
open Go.ChangeShapes Go.WideShapes Go.ChangeAt Go.RowKit Go.Deep
set_option maxRecDepth 100000

theorem cells56 : Try.prog.cellsOf 56 = 4 := by kernel_rfl
theorem cells54 : Try.prog.cellsOf 54 = 1 := by kernel_rfl
theorem cells5 : Try.prog.cellsOf 5 = 1 := by kernel_rfl
section
variable {H : Type} {enc : TypeId × Value → H} {W : World}
set_option maxRecDepth 100000 in
/-- one deed's four cells -/
theorem ldeed_of {base n : Nat} {held : Bool} {b off : Nat} {cs : List Value} {x : DataW H × List MemPlace} (hc : ∀ i, i < 4 → W.cell? ⟨b, off + i, none⟩ = cs[i]?) (hl : cs.length = 4)
    (h : DataW.trod enc Try.prog W base (fun _ => true) held n 56 cs = some x) : ∃ d : Ld, LdAt W W.heap.size b off d ∧ d.Wf := by
  obtain ⟨xs, m, _, _, _, hlen, hg⟩ := DataW.trod_struct Try.underlying56 h
  match xs, hlen with
  | [y0, y1, y2, y3], _ =>
    match cs, hl with
    | [c0, c1, c2, c3], _ =>
      have g0 := hg 0 _ rfl
      have g1 := hg 1 _ rfl
      have g2 := hg 2 _ rfl
      have g3 := hg 3 _ rfl
      change DataW.trod enc Try.prog W base (fun _ => true) held m 3 (List.take (Try.prog.cellsOf 3) (List.drop 0 [c0, c1, c2, c3])) = some y0 at g0
      change DataW.trod enc Try.prog W base (fun _ => true) held m 5 (List.take (Try.prog.cellsOf 5) (List.drop 1 [c0, c1, c2, c3])) = some y1 at g1
      change DataW.trod enc Try.prog W base (fun _ => true) held m 54 (List.take (Try.prog.cellsOf 54) (List.drop 2 [c0, c1, c2, c3])) = some y2 at g2
      change DataW.trod enc Try.prog W base (fun _ => true) held m 3 (List.take (Try.prog.cellsOf 3) (List.drop 3 [c0, c1, c2, c3])) = some y3 at g3
      rw [cells3] at g0 g3
      rw [cells5] at g1
      rw [cells54] at g2
      obtain ⟨a0, e0, -, w0⟩ := DataW.trod_int Try.underlying3 g0
      obtain ⟨a1, e1, -, w1⟩ := DataW.trod_int Try.underlying5 g1
      obtain ⟨a3, e3, -, w3⟩ := DataW.trod_int Try.underlying3 g3
      obtain rfl : c0 = .int .i64 a0 := by simpa using e0
      obtain rfl : c1 = .int .u8 a1 := by simpa using e1
      obtain rfl : c3 = .int .i64 a3 := by simpa using e3
      have hb := bounds_u8 w1
      obtain ⟨k1, rfl⟩ : ∃ k : UInt8, a1 = ((k.toNat : Nat) : Int) := ⟨UInt8.ofNat a1.toNat, by
        have : (UInt8.ofNat a1.toNat).toNat = a1.toNat := by rw [UInt8.toNat_ofNat']; omega
        rw [this]; omega⟩
      have k0 := hc 0 (by omega)
      have k1' := hc 1 (by omega)
      have k2 := hc 2 (by omega)
      have k3 := hc 3 (by omega)
      rw [Nat.add_zero] at k0
      rcases open_ints Try.underlying54 Try.underlying5 (by kernel_rfl) g2 with ⟨hcs, -⟩ | ⟨a, len, cap, zs, hcs, _, hlc, hm, hz, -, hcell, hwz⟩
      · obtain rfl : c2 = .slice none 0 0 := by simpa using hcs
        exact ⟨⟨a0, k1, [], a3⟩, ⟨k0, k1', ⟨none, 0, k2, Nat.le_refl _, Bs.nil _ _ _, fun _ => rfl⟩, k3⟩, w0, w3⟩
      · obtain rfl : c2 = .slice (some a) len cap := by simpa using hcs
        have hz' : zs.length = cap := by simpa using hz
        obtain ⟨l, hbs, hle⟩ := bs_of_rowIn (w := W) (a := some a) (len := len) (cap := cap) (.inr ⟨a, rfl, hlc, hm, hz', hcell, hwz⟩)
        have hll : l.length = len := hbs.len
        exact ⟨⟨a0, k1, l, a3⟩, ⟨k0, k1', ⟨some a, cap, by rw [hll]; exact k2, by rw [hll]; exact hle, by rw [hll]; exact hbs, fun e => (nomatch e)⟩, k3⟩, w0, w3⟩
set_option maxRecDepth 100000 in
theorem open_ldeeds {n : Nat} {held : Bool} {A : Option Addr} {len cap : Nat} {x : DataW H × List MemPlace} (h : DataW.trod enc Try.prog W 0 (fun _ => true) held n 24 [.slice A len cap] = some x) :
    ∃ L : List Ld, Lds W W.heap.size A len L ∧ len ≤ cap ∧ cap ≤ maxLen ∧ ∀ d ∈ L, d.Wf := by
  rcases open_slice Try.underlying24 h with ⟨hcs, rfl⟩ | ⟨a, l, c, m, n', D, Pl, hcs, _, hlc, hm, hmm, rfl, hi⟩
  · simp at hcs
    obtain ⟨rfl, rfl, rfl⟩ := hcs
    exact ⟨[], ⟨rfl, fun h => absurd h (by omega)⟩, Nat.le_refl _, by unfold maxLen; omega, fun p hp => by cases hp⟩
  · simp at hcs
    obtain ⟨rfl, rfl, rfl⟩ := hcs
    simp only [if_true] at hmm
    subst hmm
    by_cases hl0 : len = 0
    · subst hl0
      exact ⟨[], ⟨rfl, fun h => absurd h (by omega)⟩, hlc, hm, fun p hp => by cases hp⟩
    obtain ⟨b, off, spot⟩ := a
    have hsp : spot = none := by
      obtain ⟨cs', hc, _⟩ := hi 0 (by omega)
      rw [cells56] at hc
      obtain ⟨_, hl3, hcell⟩ := World.cells?_some hc
      have h0 := hcell 0 (by omega)
      rw [List.getElem?_eq_getElem (by omega)] at h0
      simpa [Addr.add] using World.cell?_spot h0
    subst hsp
    have ea (j k : Nat) : ((⟨b, off, none⟩ : Addr).add j).add k = ⟨b, off + j + k, none⟩ := by
      simp only [Addr.add]
      split <;> split <;> simp_all
    have hR : ∀ i, i < len → ∃ d : Ld, LdAt W W.heap.size b (off + i * 4) d ∧ d.Wf := by
      intro i hil
      obtain ⟨cs', hc, ht⟩ := hi i (by omega)
      rw [cells56] at hc
      obtain ⟨_, hl3, hcell⟩ := World.cells?_some hc
      exact ldeed_of (W := W) (b := b) (off := off + i * 4) (cs := cs') (fun k hk => by rw [← ea]; exact hcell k hk) hl3 ht
    obtain ⟨L, hL, hP⟩ := list_of len hR
    refine ⟨L, ⟨hL, fun h0 => ?_⟩, hlc, hm, fun p hp => ?_⟩
    · exact ⟨b, off, rfl, World.block_lt_of_cell? W _ (hP 0 (by omega)).1.1, fun j hj => (hP j hj).1⟩
    · obtain ⟨j, hj, rfl⟩ := List.getElem_of_mem hp
      exact (hP j hj).2
end
end Go.Proofs.YtndbjdnfibpicaaR
end
