/-
  Maps from places to slices: two with the same keys are of one size; 'make' with a size, 'len'.
-/
import Derived.Test.YtgnncbbfbhipaaaFlashMap
import Derived.Maps.Ext
namespace Go.Proofs.Ytgnncbbfbhipaaa
open Go.ChangeShapes Go.WideShapes Go.ChangeAt Go.RowKit Go.Maps
set_option maxRecDepth 100000

theorem kl_same {s p s2 p2 : Int} (hs : W64 s) (hp : W64 p) (hs2 : W64 s2) (hp2 : W64 p2) : (kl s p).sameKey (kl s2 p2) = decide (s = s2 ∧ p = p2) := by
  rw [Bool.eq_iff_iff, WideAt.sameKey_iff (kl_key hs2 hp2), decide_eq_true_iff]
  exact ⟨fun e => kl_inj hs hp hs2 hp2 e, fun ⟨e1, e2⟩ => by rw [e1, e2]⟩
section
variable {w w' : World} {mb cnt n : Nat} {f : Int → Int → Option Value}
theorem keys_of {D : DataW Value} (h : w.ownsMap Try.prog 44 rdv mb n D) : ∃ es, D = .map es ∧ es.Pairwise (fun p q => p.1.before q.1 = true) ∧ (∀ p ∈ es, WideAt.IsKeyLit p.1) ∧ ∀ p ∈ es, ∃ s q, W64 s ∧ W64 q ∧ p.1 = kl s q := by
  obtain ⟨es, e1, h1, h2⟩ := h.canon keyLaw
  refine ⟨es, e1, h1, h2, ?_⟩
  obtain ⟨es', clock, _, F, _, e2⟩ := h
  rw [e1] at e2
  injection e2 with e2
  subst e2
  intro p hp
  obtain ⟨x, hx, rfl⟩ := List.mem_map.1 (mem_sorted.1 hp)
  obtain ⟨y, hy⟩ := F.reads x hx
  rw [WideElems.rg_of hy]
  obtain ⟨s, q, _, hs, hq, e⟩ := key_inv (WideElems.rd_key hy)
  exact ⟨s, q, hs, hq, e⟩
theorem dom_le {es1 es2 : List (Lit × DataW Value)} (h1 : ∀ p ∈ es1, WideAt.IsKeyLit p.1) (h2 : ∀ p ∈ es1, ∃ s q, W64 s ∧ W64 q ∧ p.1 = kl s q)
    (hh : ∀ s p, W64 s → W64 p → Maps.has (.map es1) (kl s p) = Maps.has (.map es2) (kl s p)) : ∀ p, p ∈ es1.map (fun p => (p.1, (DataW.nil : DataW Value))) → p ∈ es2.map (fun p => (p.1, (DataW.nil : DataW Value))) := by
  intro p hp
  obtain ⟨x, hx, rfl⟩ := List.mem_map.1 hp
  obtain ⟨s, q, hs, hq, e⟩ := h2 x hx
  have g1 : Maps.has (.map es1) x.1 = true := List.any_eq_true.2 ⟨x, hx, WideAt.sameKey_self (h1 x hx)⟩
  rw [e, hh s q hs hq] at g1
  obtain ⟨y, hy, hsame⟩ := List.any_eq_true.1 g1
  refine List.mem_map.2 ⟨y, hy, ?_⟩
  rw [WideAt.sameKey_eq hsame, ← e]
theorem size_same {w2 : World} {mb2 n2 : Nat} {D1 D2 : DataW Value} (h1 : w.ownsMap Try.prog 44 rdv mb n D1) (h2 : w2.ownsMap Try.prog 44 rdv mb2 n2 D2)
    (hh : ∀ s p, W64 s → W64 p → Maps.has D1 (kl s p) = Maps.has D2 (kl s p)) : Maps.size D1 = Maps.size D2 := by
  obtain ⟨es1, rfl, a1, b1, c1⟩ := keys_of h1
  obtain ⟨es2, rfl, a2, b2, c2⟩ := keys_of h2
  have e := Maps.eq_of_mem_rising (l₁ := es1.map (fun p => (p.1, (DataW.nil : DataW Value)))) (l₂ := es2.map (fun p => (p.1, (DataW.nil : DataW Value)))) (by rw [List.pairwise_map]; exact a1) (by rw [List.pairwise_map]; exact a2)
    (fun p => ⟨dom_le b1 c1 hh p, dom_le b2 c2 (fun s p hs hp => (hh s p hs hp).symm) p⟩)
  have := congrArg List.length e
  simpa [Maps.size] using this
theorem Mp.recount {w2 : World} {mb2 cnt2 : Nat} {f2 : Int → Int → Option Value} (h1 : Mp w mb cnt f) (h2 : Mp w2 mb2 cnt2 f2) (hh : ∀ s p, W64 s → W64 p → (f s p).isSome = (f2 s p).isSome) : cnt = cnt2 := by
  obtain ⟨D1, a1, b1, c1⟩ := h1
  obtain ⟨D2, a2, b2, c2⟩ := h2
  rw [← b1, ← b2]
  exact size_same a1 a2 fun s p hs hp => by rw [(c1 s p hs hp).1, (c2 s p hs hp).1]; exact hh s p hs hp
theorem Mp.len (h : Mp w mb cnt f) (ty : TypeId) : (Builtin.len_ #[82] ty #[.map (some mb)]).run Try.prog w = .ok (.int .i64 cnt) w := by
  obtain ⟨D, a, b, -⟩ := h
  have := a.len Try.underlying82 ty
  rwa [b] at this
end
theorem run_makeMapN (n : Nat) (w : World) : (Instr.makeMap 82 (some (.int .i64 n))).run Try.prog w = .ok (.map (some w.heap.size)) (w.alloc (.map #[] 0)) := by
  simp [Instr.makeMap, run_underlying Try.underlying82, asInt]
  rfl
end Go.Proofs.Ytgnncbbfbhipaaa
