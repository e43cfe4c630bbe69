/-
  A range over a function whose iterator asks of a round only that certain blocks stay (it has laid none of its own): the round may turn rows of its own that it has laid since.
-/
import Derived.Test.YtcmhodimkpkmbaaDoorIts
import Derived.RangeFuncBox
namespace Go.Proofs.YtcmhodimkpkmbaaDoor
open Go.RowKit Go.Shelf

/-- such an iterator: the m-th of N that it hands out is enc m; p: the blocks that it wants left alone -/
def ItsF (P : Program) (g : Nat) (lb : Array Value) (enc : Nat → Array Value) (N : Nat) (p : Nat → Prop) (w : World) : Prop :=
  ∀ (n l : Nat) (J Jx : Nat → World → Prop) (W : World), Below w.heap.size w W → OwnFrom W.heap.size J → OwnFrom W.heap.size Jx →
    (∀ (k m : Nat) (W1 : World), m < N → W.heap.size ≤ W1.heap.size → J m W1 → YieldAt Fence.wide k P l (enc m) W1 fun e W' =>
      ((e = .returned (.bool true) ∧ J (m + 1) W') ∨ (e = .returned (.bool false) ∧ Jx m W')) ∧ Stay p W1 W') →
    J 0 W → CallsIn Fence.wide n P g (#[.func (.yield l) #[] #[]] ++ lb) W fun e W' => (∃ v, e = .returned v) ∧ (J N W' ∨ ∃ m, m < N ∧ Jx m W')
theorem YieldAt.mono {F : Fence} {n : Nat} {P : Program} {l : Nat} {args : Array Value} {W : World} {R R' : Ending → World → Prop} (h : YieldAt F n P l args W R) (hr : ∀ e W', R e W' → R' e W') : YieldAt F n P l args W R' := by
  obtain ⟨fn, tmps, assign, body, hy, hR⟩ := h
  exact ⟨fn, tmps, assign, body, hy, hR.mono hr⟩
theorem ItsF.its {P : Program} {g : Nat} {lb : Array Value} {enc : Nat → Array Value} {N : Nat} {p : Nat → Prop} {w : World} (h : ItsF P g lb enc N p w) : Its P g lb enc N p w :=
  fun n l J Jx W hW hJ hJx hY h0 => h n l J Jx W hW hJ hJx (fun k m W1 h1 h2 h3 => (hY k m W1 h1 h2 h3).mono fun _ _ hr => ⟨hr.1, hr.2.mono fun _ h => .inl h⟩) h0
/-- how a round's body may be left -/
def stayPostF (p : Nat → Prop) (B : Nat) (I : Nat → World → Prop) (Ix : Code → Nat → World → Prop) (m : Nat) (W : World) : Exit → Act → World → Prop
  | .normal, _, W' => Stay p W W' ∧ KeepsFrom B W W' ∧ I (m + 1) W'
  | .ret, _, W' => Stay p W W' ∧ KeepsFrom B W W' ∧ Ix .ret m W'
  | .exit id, _, W' => Stay p W W' ∧ KeepsFrom B W W' ∧ Ix (.exit id) m W'
  | .goto t, _, W' => Stay p W W' ∧ KeepsFrom B W W' ∧ Ix (.goto t) m W'
  | .panic _, _, _ => False
  | .outgrown, _, _ => False

/-- **the loop** -/
theorem wpIn_itsF {P : Program} {g : Operand} {ps : Array Tmp} {assign body : Code} {Q : Exit → Act → World → Prop} {a : Act} {w w0 : World} {n gf N : Nat} {lb : Array Value} {enc : Nat → Array Value} {p : Nat → Prop}
    (hg : a.eval g = .func (.func gf) #[] lb) (eg : ∀ args w, (callFunc gf args).run P w = .ok (.enter gf args) w)
    (hits : ItsF P gf lb enc N p w0) (hb0 : Below w0.heap.size w0 w) (hp : ∀ i, p i → i < w.heap.size) (hps : ∀ m, (enc m).size = ps.size)
    (I : Nat → World → Prop) (Ix : Code → Nat → World → Prop) (hI : OwnFrom w.heap.size I) (hIx : ∀ c, OwnFrom w.heap.size (Ix c)) (h0 : I 0 w) (Ax : Nat → Act → World → Prop) (hAx : ∀ m a', OwnFrom w.heap.size (fun (_ : Unit) W => Ax m a' W))
    (hassign : ∀ (l m : Nat) (W : World) (K : Act → World → Prop), m < N → w.heap.size ≤ W.heap.size → I m W → (∀ a' W', Stay p W W' → KeepsFrom w.heap.size W W' → I m W' → Ax m a' W' → K a' W') →
      assign.wpIn (Fence.wide.inRound l) n P (Exit.then K (fun _ _ _ => False)) { tmps := (ps.zip (enc m)).foldl (fun t (x, v) => t.setIfInBounds x v) a.tmps, defers := [] } W)
    (hbody : ∀ (l m : Nat) (a' : Act) (W : World), m < N → w.heap.size ≤ W.heap.size → I m W → Ax m a' W → body.wpIn (Fence.wide.inRound l) n P (stayPostF p w.heap.size I Ix m W) a' W)
    (hdone : ∀ (D : Nat) (W : World), w.heap.size ≤ D → I N W → W.heap[D]? = some (.deferred (some [])) → Q .normal { a with defers := { target := .collected D, args := #[] } :: a.defers } W)
    (hstop : ∀ (D : Nat) (c : Code) (m : Nat) (W : World), w.heap.size ≤ D → m < N → Ix c m W → W.heap[D]? = some (.deferred (some [])) → c.wpIn Fence.wide n P Q { a with defers := { target := .collected D, args := #[] } :: a.defers } W) :
    (Code.rangeFunc g ps assign body).wpIn Fence.wide n P Q a w := by
  refine wpIn_rangeFunc fun fn hfn => ?_
  obtain ⟨T, hT⟩ : ∃ T : LoopState → Option Code → Loop, T = fun st pe => { state := st, pending := pe, fn, tmps := a.tmps, params := ps, assign, body, defers := w.heap.size } := ⟨_, rfl⟩
  have hrun := run_enterLoop_outer (P := P) (w := w) fn a.tmps ps assign body
  obtain ⟨V, hV⟩ : ∃ V, V = (w.alloc (.deferred (some []))).alloc (.loop (T .ready none)) := ⟨_, rfl⟩
  have hsz : V.heap.size = w.heap.size + 2 := by rw [hV]; simp
  have hD : V.heap[w.heap.size]? = some (.deferred (some [])) := by rw [hV]; exact (Below.heap_alloc _ _ _ (by simp)).trans (World.alloc_heap_new w _)
  have hL : V.heap[w.heap.size + 1]? = some (.loop (T .ready none)) := by
    have := World.alloc_heap_new (w.alloc (.deferred (some []))) (.loop (T .ready none))
    rw [World.size_alloc] at this
    rw [hV]
    exact this
  have hIV : I 0 V := by rw [hV]; exact hI.alloc _ (hI.alloc _ h0)
  have hbV : Below w0.heap.size w0 V := by
    have h1 : Below w.heap.size w V := by rw [hV]; exact ((Below.refl _ w).alloc (Nat.le_refl _) _).alloc (by simp) _
    exact hb0.trans (h1.mono hb0.size)
  have hTd (st : LoopState) (pe : Option Code) : ({ T .ready none with state := st, pending := pe } : Loop) = T st pe := by rw [hT]
  have hown := ownFrom_obj (β := Nat) (B := V.heap.size) (i := w.heap.size) (fun _ => .deferred (some [])) (by omega)
  have hlow : w.heap.size ≤ V.heap.size := by omega
  refine ⟨w.heap.size + 1, [{ target := .collected w.heap.size, args := #[] }], V, { target := .fn (.func gf) lb, args := #[.func (.yield (w.heap.size + 1)) #[] #[]] }, V, gf, #[.func (.yield (w.heap.size + 1)) #[] #[]] ++ lb, V, ?_, ?_, fun _ _ => trivial, ?_, (by simp [Fence.wide]), ?_⟩
  · rw [hV, hT]; exact hrun
  · simp only [resolve, hg]
    simp [go_sem]
  · simp [invoke, go_sem, eg]
  refine (hits (n - 1) (w.heap.size + 1)
    (fun m W => I m W ∧ W.heap[w.heap.size + 1]? = some (.loop (T .ready none)) ∧ W.heap[w.heap.size]? = some (.deferred (some [])))
    (fun m W => ∃ c, Ix c m W ∧ W.heap[w.heap.size + 1]? = some (.loop (T .done (some c))) ∧ W.heap[w.heap.size]? = some (.deferred (some [])))
    V hbV ((OwnFrom.le hI hlow).and ((ownFrom_obj (fun _ => .loop (T .ready none)) (by omega)).and hown))
    (fun m X Y row hs hg' hr => by
      obtain ⟨c, h1, h2⟩ := hs
      exact ⟨c, ((OwnFrom.le (hIx c) hlow).and ((ownFrom_obj (fun _ => .loop (T .done (some c))) (by omega)).and hown)) m X Y row ⟨h1, h2⟩ hg' hr⟩)
    (fun k m W hm hW hj => ?_) ⟨hIV, hL, hD⟩).mono ?_
  · obtain ⟨hi, hl, hd⟩ := hj
    have hy := run_yield (P := P) (args := enc m) hl (by rw [hT]; exact hps m)
    rw [show (T LoopState.ready none).fn = fn by rw [hT], show (T LoopState.ready none).tmps = a.tmps by rw [hT], show (T LoopState.ready none).params = ps by rw [hT], show (T LoopState.ready none).assign = assign by rw [hT], show (T LoopState.ready none).body = body by rw [hT]] at hy
    refine ⟨fn, _, assign, body, hy, round_any (m := n) (roundIn_of_wpIn hfn (hassign _ m W _ hm (by omega) hi ?_))⟩
    intro a' W2 hs2 hk2 hi2 hax
    have hl2 := hk2.same _ _ (by omega) hl rfl
    have hd2 := hk2.same _ _ (Nat.le_refl _) hd rfl
    have hlt2 := (Array.getElem?_eq_some_iff.1 hl2).1
    refine ⟨_, run_beginRound hl2 (by rw [hT]), ?_⟩
    rw [show ({ T LoopState.ready none with state := .busy } : Loop) = T .busy none by rw [hT]]
    have hl3 : (W2.putObj (w.heap.size + 1) (.loop (T .busy none))).heap[w.heap.size + 1]? = some (.loop (T .busy none)) := World.putObj_heap_same hlt2
    have hd3 : (W2.putObj (w.heap.size + 1) (.loop (T .busy none))).heap[w.heap.size]? = some (.deferred (some [])) := (World.putObj_heap_other (by omega)).trans hd2
    have hs3 : Stay p W (W2.putObj (w.heap.size + 1) (.loop (T .busy none))) :=
      hs2.trans (Stay.putObj _ _ (by intro h; exact absurd (hp _ h) (by omega)))
    refine wpIn_mono (hbody _ m a' _ hm (by simp; omega) (hI.putObj _ hi2 (by omega) hl2 rfl) ((hAx m a').putObj (s := ()) _ hax (by omega) hl2 rfl)) ?_
    have key (jump : Option Code) (W4 : World) (h4 : Stay p (W2.putObj (w.heap.size + 1) (.loop (T .busy none))) W4) (k4 : KeepsFrom w.heap.size (W2.putObj (w.heap.size + 1) (.loop (T .busy none))) W4) :
        (Instr.endRound (w.heap.size + 1) jump).run P W4 = .ok (.bool jump.isNone) (W4.putObj (w.heap.size + 1) (.loop (T (if jump.isNone then .ready else .done) jump))) ∧
        W4.heap[w.heap.size + 1]? = some (.loop (T .busy none)) ∧
        (W4.putObj (w.heap.size + 1) (.loop (T (if jump.isNone then .ready else .done) jump))).heap[w.heap.size + 1]? = some (.loop (T (if jump.isNone then .ready else .done) jump)) ∧
        (W4.putObj (w.heap.size + 1) (.loop (T (if jump.isNone then .ready else .done) jump))).heap[w.heap.size]? = some (.deferred (some [])) ∧
        Stay p W (W4.putObj (w.heap.size + 1) (.loop (T (if jump.isNone then .ready else .done) jump))) := by
      have hl4 := k4.same _ _ (by omega) hl3 rfl
      have hd4 := k4.same _ _ (Nat.le_refl _) hd3 rfl
      have hr := run_endRound (P := P) jump hl4
      rw [show ({ T LoopState.busy none with state := if jump.isNone then LoopState.ready else .done, pending := jump } : Loop) = T (if jump.isNone then .ready else .done) jump by rw [hT]] at hr
      exact ⟨hr, hl4, World.putObj_heap_same (Array.getElem?_eq_some_iff.1 hl4).1, (World.putObj_heap_other (by omega)).trans hd4,
        (hs3.trans h4).trans (Stay.putObj _ _ (by intro h; exact absurd (hp _ h) (by omega)))⟩
    rintro e a4 W4 hq
    cases e with
    | normal =>
      obtain ⟨h4, k4, hi4⟩ := hq
      obtain ⟨hr, hl4, hl5, hd5, hs5⟩ := key none W4 h4 k4
      exact ⟨_, _, hr, .inl ⟨rfl, hI.putObj _ hi4 (by omega) hl4 rfl, hl5, hd5⟩, hs5⟩
    | ret =>
      obtain ⟨h4, k4, hi4⟩ := hq
      obtain ⟨hr, hl4, hl5, hd5, hs5⟩ := key (some .ret) W4 h4 k4
      exact ⟨_, _, hr, .inr ⟨rfl, .ret, (hIx _).putObj _ hi4 (by omega) hl4 rfl, hl5, hd5⟩, hs5⟩
    | exit id =>
      obtain ⟨h4, k4, hi4⟩ := hq
      obtain ⟨hr, hl4, hl5, hd5, hs5⟩ := key (some (.exit id)) W4 h4 k4
      exact ⟨_, _, hr, .inr ⟨rfl, .exit id, (hIx _).putObj _ hi4 (by omega) hl4 rfl, hl5, hd5⟩, hs5⟩
    | goto t =>
      obtain ⟨h4, k4, hi4⟩ := hq
      obtain ⟨hr, hl4, hl5, hd5, hs5⟩ := key (some (.goto t)) W4 h4 k4
      exact ⟨_, _, hr, .inr ⟨rfl, .goto t, (hIx _).putObj _ hi4 (by omega) hl4 rfl, hl5, hd5⟩, hs5⟩
    | panic _ => exact hq.elim
    | outgrown => exact hq.elim
  · rintro e W2 ⟨⟨v, rfl⟩, ⟨hi, hl, hd⟩ | ⟨m, hm, c, hi, hl, hd⟩⟩
    · have hr := run_endLoop (P := P) hl (by rw [hT]; simp)
      rw [show (T LoopState.ready none).pending = none by rw [hT]] at hr
      exact ⟨none, _, hr, hdone _ _ (Nat.le_refl _) (hI.putObj _ hi (by omega) hl rfl) ((World.putObj_heap_other (by omega)).trans hd)⟩
    · have hr := run_endLoop (P := P) hl (by rw [hT]; simp)
      rw [show (T LoopState.done (some c)).pending = some c by rw [hT]] at hr
      exact ⟨some c, _, hr, hstop _ c m _ (Nat.le_refl _) hm ((hIx c).putObj _ hi (by omega) hl rfl) ((World.putObj_heap_other (by omega)).trans hd)⟩
end Go.Proofs.YtcmhodimkpkmbaaDoor
