/-
  What comes in, as the row's step opens it: a shape, a plan (structs of three numbers), a slice of deeds.
-/
import Derived.Test.YtgnncbbfbhipaaaFlashAll
import Derived.Test.YtgnncbbfbhipaaaRowBytes
import Derived.WalkKit
import Derived.ProofKit
import Derived.OpenShut
import Derived.ChangeArms
import Derived.ChangeSame
import Derived.ChangeSlices
import Derived.Deep.Slices
import Derived.Deep.Strs
import Derived.Lib.SmallJoins
namespace Go.Proofs.Ytgnncbbfbhipaaa
open Go.ChangeShapes Go.WideShapes Go.ChangeAt Go.RowKit Go.Deep
set_option maxRecDepth 100000

theorem cells23 : Try.prog.cellsOf 23 = 3 := by kernel_rfl
theorem cells27 : Try.prog.cellsOf 27 = 3 := by kernel_rfl
theorem cells65 : Try.prog.cellsOf 65 = 7 := by kernel_rfl
theorem cells46 : Try.prog.cellsOf 46 = 1 := by kernel_rfl
theorem cells25 : Try.prog.cellsOf 25 = 1 := by kernel_rfl
theorem list_of {α : Type} {R : Nat → α → Prop} : ∀ (n : Nat), (∀ i, i < n → ∃ p, R i p) → ∃ L : List α, L.length = n ∧ ∀ j (h : j < L.length), R j L[j]
  | 0, _ => ⟨[], rfl, fun j h => absurd h (by simp)⟩
  | n + 1, h => by
    obtain ⟨L, hl, hr⟩ := list_of n fun i hi => h i (by omega)
    obtain ⟨p, hp⟩ := h n (by omega)
    refine ⟨L ++ [p], by simp [hl], fun j hj => ?_⟩
    by_cases e : j < L.length
    · rw [List.getElem_append_left e]; exact hr j e
    · have : j = n := by simp at hj; omega
      subst this
      rw [List.getElem_append_right (by omega)]
      simpa [hl] using hp
section
variable {H : Type} {enc : TypeId × Value → H} {w : World} {base : Nat} {spare : Nat → Bool} {held : Bool}
theorem open_shape {r : Reach} {b0 : Nat} {v : Value} {d : DataW H} {p : List MemPlace} (hv : Value.okWide Try.prog w r b0 23 v) (h : DataW.Trod enc Try.prog w base spare held 23 v d p) :
    ∃ a b c : Int, v = .agg #[.int .i64 a, .int .i64 b, .int .i64 c] ∧ d = .agg [.lit (.int .i64 a), .lit (.int .i64 b), .lit (.int .i64 c)] ∧ p = [] ∧ W64 a ∧ W64 b ∧ W64 c := by
  obtain ⟨x0, x1, x2, y0, y1, y2, m, rfl, rfl, rfl, h0, h1, h2⟩ := Joins.open_agg3 Try.underlying23 (by kernel_rfl) cells23 hv h
  obtain ⟨a, ea, rfl, ha⟩ := DataW.trod_int Try.underlying3 h0
  obtain ⟨b, eb, rfl, hb⟩ := DataW.trod_int Try.underlying3 h1
  obtain ⟨c, ec, rfl, hc⟩ := DataW.trod_int Try.underlying3 h2
  obtain rfl : x0 = .int .i64 a := by simpa using ea
  obtain rfl : x1 = .int .i64 b := by simpa using eb
  obtain rfl : x2 = .int .i64 c := by simpa using ec
  exact ⟨a, b, c, rfl, rfl, rfl, ha, hb, hc⟩
theorem shut_shape {a b c : Int} (ha : W64 a) (hb : W64 b) (hc : W64 c) :
    DataW.Trod enc Try.prog w base spare held 23 (.agg #[.int .i64 a, .int .i64 b, .int .i64 c]) (.agg [.lit (.int .i64 a), .lit (.int .i64 b), .lit (.int .i64 c)]) [] := by
  have h0 := trod_int_mk (enc := enc) (w := w) (base := base) (spare := spare) (held := held) 1 Try.underlying3 ha
  have h1 := trod_int_mk (enc := enc) (w := w) (base := base) (spare := spare) (held := held) 1 Try.underlying3 hb
  have h2 := trod_int_mk (enc := enc) (w := w) (base := base) (spare := spare) (held := held) 1 Try.underlying3 hc
  exact Joins.shut_agg3 (y0 := (.lit (.int .i64 a), [])) (y1 := (.lit (.int .i64 b), [])) (y2 := (.lit (.int .i64 c), [])) Try.underlying23 (by kernel_rfl) cells23 ⟨_, h0⟩ ⟨_, h1⟩ ⟨_, h2⟩
theorem open_plan {r : Reach} {b0 : Nat} {v : Value} {d : DataW H} {p : List MemPlace} (hv : Value.okWide Try.prog w r b0 27 v) (h : DataW.Trod enc Try.prog w base spare held 27 v d p) :
    ∃ a b c : Int, v = .agg #[.int .u64 a, .int .i64 b, .int .i64 c] ∧ d = .agg [.lit (.int .u64 a), .lit (.int .i64 b), .lit (.int .i64 c)] ∧ p = [] ∧ (Lit.int .u64 a).wf = true ∧ W64 b ∧ W64 c := by
  obtain ⟨x0, x1, x2, y0, y1, y2, m, rfl, rfl, rfl, h0, h1, h2⟩ := Joins.open_agg3 Try.underlying27 (by kernel_rfl) cells27 hv h
  obtain ⟨a, ea, rfl, ha⟩ := DataW.trod_int Try.underlying25 h0
  obtain ⟨b, eb, rfl, hb⟩ := DataW.trod_int Try.underlying3 h1
  obtain ⟨c, ec, rfl, hc⟩ := DataW.trod_int Try.underlying3 h2
  obtain rfl : x0 = .int .u64 a := by simpa using ea
  obtain rfl : x1 = .int .i64 b := by simpa using eb
  obtain rfl : x2 = .int .i64 c := by simpa using ec
  exact ⟨a, b, c, rfl, rfl, rfl, ha, hb, hc⟩
theorem shut_plan {a b c : Int} (ha : (Lit.int .u64 a).wf = true) (hb : W64 b) (hc : W64 c) :
    DataW.Trod enc Try.prog w base spare held 27 (.agg #[.int .u64 a, .int .i64 b, .int .i64 c]) (.agg [.lit (.int .u64 a), .lit (.int .i64 b), .lit (.int .i64 c)]) [] := by
  have h0 := trod_int_mk (enc := enc) (w := w) (base := base) (spare := spare) (held := held) 1 Try.underlying25 ha
  have h1 := trod_int_mk (enc := enc) (w := w) (base := base) (spare := spare) (held := held) 1 Try.underlying3 hb
  have h2 := trod_int_mk (enc := enc) (w := w) (base := base) (spare := spare) (held := held) 1 Try.underlying3 hc
  exact Joins.shut_agg3 (y0 := (.lit (.int .u64 a), [])) (y1 := (.lit (.int .i64 b), [])) (y2 := (.lit (.int .i64 c), [])) Try.underlying27 (by kernel_rfl) cells27 ⟨_, h0⟩ ⟨_, h1⟩ ⟨_, h2⟩
theorem u64_nat {a : Int} (h : (Lit.int .u64 a).wf = true) : ∃ n : Nat, a = n ∧ n < 18446744073709551616 := by
  have hb := bounds_u64 h
  exact ⟨a.toNat, by omega, by omega⟩
end
section
variable {H : Type} {enc : TypeId × Value → H} {W : World}
set_option maxRecDepth 100000 in
/-- one deed's seven cells -/
theorem deed_of {base n : Nat} {held : Bool} {b off : Nat} {cs : List Value} {x : DataW H × List MemPlace} (hc : ∀ i, i < 7 → W.cell? ⟨b, off + i, none⟩ = cs[i]?) (hl : cs.length = 7)
    (h : DataW.trod enc Try.prog W base (fun _ => true) held n 65 cs = some x) : ∃ d : Dd, DeedAt W W.heap.size b off d ∧ d.Wf := by
  obtain ⟨xs, m, _, _, _, hlen, hg⟩ := DataW.trod_struct Try.underlying65 h
  match xs, hlen with
  | [y0, y1, y2, y3, y4], _ =>
    match cs, hl with
    | [c0, c1, c2, c3, c4, c5, c6], _ =>
      have g0 := hg 0 _ rfl
      have g1 := hg 1 _ rfl
      have g2 := hg 2 _ rfl
      have g3 := hg 3 _ rfl
      have g4 := hg 4 _ rfl
      change DataW.trod enc Try.prog W base (fun _ => true) held m 3 (List.take (Try.prog.cellsOf 3) (List.drop 0 [c0, c1, c2, c3, c4, c5, c6])) = some y0 at g0
      change DataW.trod enc Try.prog W base (fun _ => true) held m 3 (List.take (Try.prog.cellsOf 3) (List.drop 1 [c0, c1, c2, c3, c4, c5, c6])) = some y1 at g1
      change DataW.trod enc Try.prog W base (fun _ => true) held m 3 (List.take (Try.prog.cellsOf 3) (List.drop 2 [c0, c1, c2, c3, c4, c5, c6])) = some y2 at g2
      change DataW.trod enc Try.prog W base (fun _ => true) held m 46 (List.take (Try.prog.cellsOf 46) (List.drop 3 [c0, c1, c2, c3, c4, c5, c6])) = some y3 at g3
      change DataW.trod enc Try.prog W base (fun _ => true) held m 27 (List.take (Try.prog.cellsOf 27) (List.drop 4 [c0, c1, c2, c3, c4, c5, c6])) = some y4 at g4
      rw [cells3] at g0 g1 g2
      rw [cells46] at g3
      rw [cells27] at g4
      obtain ⟨z0, z1, z2, m2, _, _, u0, u1, u2⟩ := trod_struct3 Try.underlying27 g4
      change DataW.trod enc Try.prog W base (fun _ => true) held m2 25 (List.take (Try.prog.cellsOf 25) (List.drop 0 [c4, c5, c6])) = some z0 at u0
      change DataW.trod enc Try.prog W base (fun _ => true) held m2 3 (List.take (Try.prog.cellsOf 3) (List.drop 1 [c4, c5, c6])) = some z1 at u1
      change DataW.trod enc Try.prog W base (fun _ => true) held m2 3 (List.take (Try.prog.cellsOf 3) (List.drop 2 [c4, c5, c6])) = some z2 at u2
      rw [cells25] at u0
      rw [cells3] at u1 u2
      obtain ⟨a0, e0, -, w0⟩ := DataW.trod_int Try.underlying3 g0
      obtain ⟨a1, e1, -, w1⟩ := DataW.trod_int Try.underlying3 g1
      obtain ⟨a2, e2, -, w2⟩ := DataW.trod_int Try.underlying3 g2
      obtain ⟨a4, e4, -, w4⟩ := DataW.trod_int Try.underlying25 u0
      obtain ⟨a5, e5, -, w5⟩ := DataW.trod_int Try.underlying3 u1
      obtain ⟨a6, e6, -, w6⟩ := DataW.trod_int Try.underlying3 u2
      obtain rfl : c0 = .int .i64 a0 := by simpa using e0
      obtain rfl : c1 = .int .i64 a1 := by simpa using e1
      obtain rfl : c2 = .int .i64 a2 := by simpa using e2
      obtain rfl : c4 = .int .u64 a4 := by simpa using e4
      obtain rfl : c5 = .int .i64 a5 := by simpa using e5
      obtain rfl : c6 = .int .i64 a6 := by simpa using e6
      obtain ⟨k4, rfl, hk4⟩ := u64_nat w4
      have k0 := hc 0 (by omega)
      have k1 := hc 1 (by omega)
      have k2 := hc 2 (by omega)
      have k3 := hc 3 (by omega)
      have k4' := hc 4 (by omega)
      have k5 := hc 5 (by omega)
      have k6 := hc 6 (by omega)
      rw [Nat.add_zero] at k0
      rcases open_ints Try.underlying46 Try.underlying5 (by kernel_rfl) g3 with ⟨hcs, -⟩ | ⟨a, len, cap, zs, hcs, _, hlc, hm, hz, -, hcell, hwz⟩
      · obtain rfl : c3 = .slice none 0 0 := by simpa using hcs
        exact ⟨⟨a0, a1, a2, [], k4, a5, a6⟩, ⟨k0, k1, k2, ⟨none, 0, k3, Nat.le_refl _, Bs.nil _ _ _, fun _ => rfl⟩, k4', k5, k6⟩, w0, w1, w2, hk4⟩
      · obtain rfl : c3 = .slice (some a) len cap := by simpa using hcs
        have hz' : zs.length = cap := by simpa using hz
        obtain ⟨l, hbs, hle⟩ := bs_of_rowIn (w := W) (a := some a) (len := len) (cap := cap) (.inr ⟨a, rfl, hlc, hm, hz', hcell, hwz⟩)
        have hll : l.length = len := hbs.len
        exact ⟨⟨a0, a1, a2, l, k4, a5, a6⟩, ⟨k0, k1, k2, ⟨some a, cap, by rw [hll]; exact k3, by rw [hll]; exact hle, by rw [hll]; exact hbs, fun e => (nomatch e)⟩, k4', k5, k6⟩, w0, w1, w2, hk4⟩
set_option maxRecDepth 100000 in
theorem open_deeds {n : Nat} {held : Bool} {A : Option Addr} {len cap : Nat} {x : DataW H × List MemPlace} (h : DataW.trod enc Try.prog W 0 (fun _ => true) held n 24 [.slice A len cap] = some x) :
    ∃ L : List Dd, Ds W W.heap.size A len L ∧ len ≤ cap ∧ cap ≤ maxLen ∧ ∀ d ∈ L, d.Wf := by
  rcases open_slice Try.underlying24 h with ⟨hcs, rfl⟩ | ⟨a, l, c, m, n', D, Pl, hcs, _, hlc, hm, hmm, rfl, hi⟩
  · simp at hcs
    obtain ⟨rfl, rfl, rfl⟩ := hcs
    exact ⟨[], ⟨rfl, fun h => absurd h (by omega)⟩, Nat.le_refl _, by unfold maxLen; omega, fun p hp => by cases hp⟩
  · simp at hcs
    obtain ⟨rfl, rfl, rfl⟩ := hcs
    simp only [if_true] at hmm
    subst hmm
    by_cases hl0 : len = 0
    · subst hl0
      exact ⟨[], ⟨rfl, fun h => absurd h (by omega)⟩, hlc, hm, fun p hp => by cases hp⟩
    obtain ⟨b, off, spot⟩ := a
    have hsp : spot = none := by
      obtain ⟨cs', hc, _⟩ := hi 0 (by omega)
      rw [cells65] at hc
      obtain ⟨_, hl3, hcell⟩ := World.cells?_some hc
      have h0 := hcell 0 (by omega)
      rw [List.getElem?_eq_getElem (by omega)] at h0
      simpa [Addr.add] using World.cell?_spot h0
    subst hsp
    have ea (j k : Nat) : ((⟨b, off, none⟩ : Addr).add j).add k = ⟨b, off + j + k, none⟩ := by
      simp only [Addr.add]
      split <;> split <;> simp_all
    have hR : ∀ i, i < len → ∃ d : Dd, DeedAt W W.heap.size b (off + i * 7) d ∧ d.Wf := by
      intro i hil
      obtain ⟨cs', hc, ht⟩ := hi i (by omega)
      rw [cells65] at hc
      obtain ⟨_, hl3, hcell⟩ := World.cells?_some hc
      exact deed_of (W := W) (b := b) (off := off + i * 7) (cs := cs') (fun k hk => by rw [← ea]; exact hcell k hk) hl3 ht
    obtain ⟨L, hL, hP⟩ := list_of len hR
    refine ⟨L, ⟨hL, fun h0 => ?_⟩, hlc, hm, fun p hp => ?_⟩
    · exact ⟨b, off, rfl, World.block_lt_of_cell? W _ (hP 0 (by omega)).1.1, fun j hj => (hP j hj).1⟩
    · obtain ⟨j, hj, rfl⟩ := List.getElem_of_mem hp
      exact (hP j hj).2
end
end Go.Proofs.Ytgnncbbfbhipaaa
