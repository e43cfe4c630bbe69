/-
  What CrashAll's own variables hold that don't change; a region that only reads, within a round.
-/
import Derived.Test.YtgnncbbfbhipaaaCrashIts
import Derived.Sort.BigQuietIn
namespace Go.Proofs.Ytgnncbbfbhipaaa
open Go.ChangeShapes Go.WideShapes Go.ChangeAt Go.RowKit Go.Shelf
set_option maxRecDepth 100000

section
variable {n : Nat} {P : Program} {ops : Array Oper} {Q : Exit → Act → World → Prop} {r : Nat}
theorem opIn_round {i : Nat} {a : Act} {w : World} {K K' : Act → World → Prop} (hd : ∀ (i : Nat) (o : Oper), ops[i]? = some o → ∀ c, o.op ≠ .defer c) (h : ∀ a w, K a w → K' a w) (hh : wpOpIn Fence.wide n P ops Q i K a w) :
    wpOpIn (Fence.wide.inRound r) n P ops Q i K' a w := by
  have h2 := wpOpIn_mono h hh
  unfold wpOpIn at h2 ⊢
  cases ho : ops[i]? with
  | none => simpa [ho] using h2
  | some o =>
    have e : ∀ ro ρ, Oper.semAt ro ρ o = execOp ρ o := fun ro ρ => Oper.semAt_eq ro ρ o (hd i o ho)
    simp only [ho] at h2 ⊢
    by_cases hw : Region.wanted o (yielded ops a.tmps) = true
    · simp only [hw, if_true] at h2 ⊢
      unfold Oper.wpIn at h2 ⊢
      rw [e] at h2 ⊢
      exact h2
    · simp only [hw] at h2 ⊢
      exact h2
theorem anyIn_round {md : Region.Mode} (hd : ∀ (i : Nat) (o : Oper), ops[i]? = some o → ∀ c, o.op ≠ .defer c) : ∀ (fuel : Nat) (listed : Array Bool) (a : Act) (w : World), wpAnyIn Fence.wide n P md ops Q fuel listed a w → wpAnyIn (Fence.wide.inRound r) n P md ops Q fuel listed a w
  | 0, _, _, _, h => h
  | fuel + 1, _, _, _, h => ⟨h.1, fun i hi => opIn_round hd (fun a w hk => anyIn_round hd fuel _ a w hk) (h.2 i hi)⟩
/-- a region that only reads: one walk, within a round as anywhere -/
theorem region_round {id : Nat} {a : Act} {w : World} {l : List Oper} (hm : P.follows .mixedOrders = true) (hB : Region.lexB .any l.toArray = true) (hd : ∀ o ∈ l, ∀ c, o.op ≠ .defer c)
    (h : wpQuietIn Fence.wide n P l.toArray (fun w' => ∃ n, w' = w.drewN n) (fun a' => ∀ w', (∃ n, w' = w.drewN n) → Q .normal a' w') l a) : (Code.region id l.toArray true).wpIn (Fence.wide.inRound r) n P Q a w := by
  have hB2 := hB
  simp only [Region.lexB, Bool.and_eq_true] at hB2
  refine wpIn_region_any hm (anyIn_round (fun i o ho => hd o (by
    rw [List.getElem?_toArray] at ho
    exact List.mem_of_getElem? ho)) _ _ _ _ (wpAnyIn_of_quiet (C := fun w' => ∃ n, w' = w.drewN n) (Q := fun a' => ∀ w', (∃ n, w' = w.drewN n) → Q .normal a' w') rfl (fun _ w' hw' h => h w' hw') _ _ _ _ ⟨1, rfl⟩ ?_))
  have := wpAnyQIn_lex (F := Fence.wide) (n := n) (C := fun w' => ∃ n, w' = w.drewN n) (md := .any) hB2.1 l.toArray.toList 0 (Array.replicate l.toArray.size false) a (by simp) (by simpa using hB2.2) (by simpa using h)
  simpa using this
end
/-- what doesn't change: the boxes of cut, stop, the plan, the result, how many pages -/
structure Sta (w : World) (b : Nat) (cut stop : Int) (K : Nat) (t u : Int) (k : Nat) (X : World) : Prop where
  cut : Boxed X w.heap.size 3 (.int .i64 cut)
  stop : Boxed X (w.heap.size + 1) 3 (.int .i64 stop)
  plan : X.heap[w.heap.size + 1 + 1]? = some (.cells #[.int .u64 K, .int .i64 t, .int .i64 u] 27 (0, 0))
  res : Boxed X (w.heap.size + 1 + 1 + 1) 4 (.bool false)
  k : Boxed X b 3 (.int .i64 k)
  below : Below w.heap.size w X
section
variable {w X X' : World} {b : Nat} {cut stop : Int} {K : Nat} {t u : Int} {k : Nat}
theorem Sta.kept (h : Sta w b cut stop K t u k X) {row : Option Nat} (hg : X.grownBy X' row) (hr : ∀ r, row = some r → w.heap.size + 4 ≤ r ∧ r ≠ b) : Sta w b cut stop K t u k X' := by
  have hne : ∀ i, i < w.heap.size + 4 → some i ≠ row := fun i hi e => by have := (hr i e.symm).1; omega
  exact ⟨h.cut.kept hg (hne _ (by omega)), h.stop.kept hg (hne _ (by omega)), (hg.block _ (Array.getElem?_eq_some_iff.1 h.plan).1 (hne _ (by omega))).trans h.plan, h.res.kept hg (hne _ (by omega)), h.k.kept hg (fun e => (hr _ e.symm).2 rfl), h.below.grown hg h.below.size (fun q e => by have := (hr q e).1; omega)⟩
theorem Sta.alloc (h : Sta w b cut stop K t u k X) (o : Obj) : Sta w b cut stop K t u k (X.alloc o) := h.kept (World.grownBy_alloc X o none) (fun r e => by cases e)
theorem Sta.setCell (h : Sta w b cut stop K t u k X) (i : Nat) (v : Value) (h1 : w.heap.size + 4 ≤ i) (h2 : i ≠ b) : Sta w b cut stop K t u k (X.setCell ⟨i, 0, none⟩ v) := h.kept (grownBy_setCell' X i v) (fun r e => by injection e with e; exact ⟨by omega, by omega⟩)
theorem Sta.putObj (h : Sta w b cut stop K t u k X) (D : Nat) (o : Obj) (h1 : w.heap.size + 4 ≤ D) (h2 : D ≠ b) : Sta w b cut stop K t u k (X.putObj D o) := h.kept (grownBy_putObj' X D o) (fun r e => by injection e with e; exact ⟨by omega, by omega⟩)
theorem Sta.drewN (h : Sta w b cut stop K t u k X) (m : Nat) : Sta w b cut stop K t u k (X.drewN m) := ⟨h.cut, h.stop, h.plan, h.res, h.k, below_drewN h.below m⟩
theorem Sta.own {β : Type} {B : Nat} (hB : w.heap.size + 4 ≤ B) : OwnFrom B (fun (_ : β) X => Sta w b cut stop K t u k X) := fun _ X Y row hs hg hr => hs.kept hg fun r e => by
  obtain ⟨h1, o, ho, hc⟩ := hr r e
  refine ⟨by omega, fun e2 => ?_⟩
  have hk : X.heap[b]? = some _ := hs.k
  rw [e2, hk] at ho
  cases ho
  cases hc
end
theorem Boxed.drewN {X : World} {B : Nat} {t : TypeId} {v : Value} (h : Boxed X B t v) (m : Nat) : Boxed (X.drewN m) B t v := h
end Go.Proofs.Ytgnncbbfbhipaaa
