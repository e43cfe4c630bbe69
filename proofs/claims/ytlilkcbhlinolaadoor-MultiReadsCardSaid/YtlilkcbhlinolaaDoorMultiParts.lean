/-
  A row of parts of the call's own, bodies in blocks of their own: kept, appended to, read as a list.
  Contract of multi.parts: the parts that some bytes are Put of, or an error.
-/
import Derived.Test.YtlilkcbhlinolaaDoorParts
import Derived.Test.YtlilkcbhlinolaaDoorRefMulti
import Derived.Laws.AppendOwn
import Derived.Deep.AppendLies
import Derived.Test.YtlilkcbhlinolaaDoorMultiPut
import Derived.Test.YtlilkcbhlinolaaDoorMultiBody
import Derived.Deep.RegionHeld3
namespace Go.Proofs.YtlilkcbhlinolaaDoor
open Go.ChangeShapes Go.WideShapes Go.ChangeAt Go.RowKit

/-- the row's cells are these parts; no body lies in the row's own block -/
def Held (w : World) (u : Value) (xs : List Value) (L : List Mu.Part) : Prop :=
  xs.length = L.length * 3 ∧ ∀ j (h : j < L.length), ∃ A c, xs[j * 3]? = some (.int .i64 L[j].1) ∧ xs[j * 3 + 1]? = some (.int .i64 L[j].2.1) ∧ xs[j * 3 + 2]? = some (.slice A L[j].2.2.length c) ∧ L[j].2.2.length ≤ c ∧
    Bs w w.heap.size A L[j].2.2.length L[j].2.2 ∧ (0 < L[j].2.2.length → ∀ x, A = some x → u.ownBlock ≠ some x.block)
theorem Held.nil (w : World) (u : Value) : Held w u [] [] := ⟨rfl, fun j h => absurd h (by simp)⟩
theorem Held.below {w w' : World} {u : Value} {xs : List Value} {L : List Mu.Part} (h : Held w u xs L) (hb : Below w.heap.size w w') : Held w' u xs L :=
  ⟨h.1, fun j hj => by
    obtain ⟨A, c, h1, h2, h3, h4, h5, h6⟩ := h.2 j hj
    exact ⟨A, c, h1, h2, h3, h4, (h5.below hb).mono hb.size, h6⟩⟩
theorem bs_grown {w w' : World} {row : Option Nat} {A : Option Addr} {n : Nat} {l : List UInt8} (h : Bs w w.heap.size A n l) (hg : w.grownBy w' row) (hne : 0 < n → ∀ x, A = some x → row ≠ some x.block) : Bs w' w'.heap.size A n l :=
  ⟨h.1, fun h0 => by
    obtain ⟨b, off, e, hb, hc⟩ := h.2 h0
    exact ⟨b, off, e, Nat.lt_of_lt_of_le hb hg.size, fun j hj => (hg.cell_far ⟨b, off + j, none⟩ hb (fun e2 => hne h0 _ e e2.symm)).trans (hc j hj)⟩⟩
/-- behind the append of one part -/
theorem Held.push {w w' : World} {u : Value} {xs : List Value} {L : List Mu.Part} {a b : Int} {own : List UInt8} {A1 : Option Addr} {c1 g cap : Nat} (h : Held w u xs L) (hg : w.grownBy w' u.ownBlock) (hat : u.ownBlock = some g ∨ g = w.heap.size)
    (ho : Bs w w.heap.size A1 own.length own) (hc : own.length ≤ c1) (hne : ∀ x, A1 = some x → u.ownBlock ≠ some x.block) :
    Held w' (.slice (some ⟨g, 0, none⟩) (L.length + 1) cap) (xs ++ [.int .i64 a, .int .i64 b, .slice A1 own.length c1]) (L ++ [(a, b, own)]) := by
  have far {A : Option Addr} {n : Nat} {l : List UInt8} (h5 : Bs w w.heap.size A n l) (h6 : 0 < n → ∀ x, A = some x → u.ownBlock ≠ some x.block) : 0 < n → ∀ x, A = some x → (Value.slice (some ⟨g, 0, none⟩) (L.length + 1) cap).ownBlock ≠ some x.block := fun h0 x hx => by
    obtain ⟨b, off, e, hb, _⟩ := h5.2 h0
    rw [hx] at e
    injection e with e
    subst e
    show some g ≠ some b
    intro e2
    injection e2 with e2
    rcases hat with h7 | h7
    · exact h6 h0 _ hx (by rw [h7, e2])
    · omega
  refine ⟨by rw [List.length_append, List.length_append, h.1]; simp only [List.length_cons, List.length_nil]; omega, fun j hj => ?_⟩
  by_cases hjl : j < L.length
  · obtain ⟨A, c, h1, h2, h3, h4, h5, h6⟩ := h.2 j hjl
    have hlx := h.1
    simp only [List.getElem_append_left hjl]
    refine ⟨A, c, ?_, ?_, ?_, h4, bs_grown h5 hg h6, far h5 h6⟩
    · rw [List.getElem?_append_left (by omega)]; exact h1
    · rw [List.getElem?_append_left (by omega)]; exact h2
    · rw [List.getElem?_append_left (by omega)]; exact h3
  · obtain rfl : j = L.length := by rw [List.length_append] at hj; simp at hj; omega
    have e : (L ++ [(a, b, own)])[L.length] = (a, b, own) := by simp
    rw [e]
    have hlx := h.1
    refine ⟨A1, c1, ?_, ?_, ?_, hc, bs_grown ho hg (fun _ => hne), far ho (fun _ => hne)⟩
    · rw [List.getElem?_append_right (by omega), hlx, Nat.sub_self]; rfl
    · rw [List.getElem?_append_right (by omega), hlx, Nat.add_sub_cancel_left]; rfl
    · rw [List.getElem?_append_right (by omega), hlx, Nat.add_sub_cancel_left]; rfl
theorem Held.parts {w : World} {base n : Nat} {u : Value} {xs : List Value} {L : List Mu.Part} (h : Held w u xs L) (hown : w.ownsRow base 43 3 u n xs) (hn : L.length = n) : ∃ A cap, u = .slice A n cap ∧ Ps w w.heap.size A n L ∧ n ≤ cap := by
  have hl : xs.length = n * 3 := hown.1
  rcases hown.2 with ⟨rfl, rfl⟩ | ⟨g, cap, cur, rfl, _, hg, hnc, _⟩
  · exact ⟨none, 0, rfl, ⟨hn, fun h => absurd h (by omega)⟩, Nat.le_refl _⟩
  · have hgl : g < w.heap.size := by
      rcases Nat.lt_or_ge g w.heap.size with hlt | hge
      · exact hlt
      · rw [Array.getElem?_eq_none hge] at hg
        cases hg
    refine ⟨_, cap, rfl, ⟨hn, fun _ => ⟨g, 0, rfl, hgl, fun j hj => ?_⟩⟩, hnc⟩
    obtain ⟨A, c, h1, h2, h3, h4, h5, _⟩ := h.2 j hj
    rw [Nat.zero_add]
    refine ⟨?_, ?_, A, c, ?_, h4, h5⟩
    · rw [hown.cellAt (j * 3) (by omega)]; exact h1
    · rw [hown.cellAt (j * 3 + 1) (by omega)]; exact h2
    · rw [hown.cellAt (j * 3 + 2) (by omega)]; exact h3
theorem part_info : (Tryd.prog.info? 43).map (fun i => (i.zero, i.size, i.bytes)) = some (some (.agg #[.int .i64 0, .int .i64 0, .slice none 0 0]), 3, 40) := by kernel_rfl

/-- the parts and the total; or an error of the form's -/
def PartsTo (bound l : List UInt8) (w : World) (e : Ending) (w' : World) : Prop :=
  Below w.heap.size w w' ∧ ((∃ L t A n c, Mu.Is bound l L t ∧ e = .returned (.tuple #[.slice A n c, .int .i64 t, .nilIface]) ∧ Ps w' w'.heap.size A n L ∧ n ≤ c) ∨
    ((∀ L t, ¬ Mu.Is bound l L t) ∧ ∃ x, e = .returned (.tuple #[.slice none 0 0, .int .i64 0, formE x])))
theorem parts_arg (A : Option Addr) (n c : Nat) (U x : ByteArray) (w : World)
    (cb : ∀ W, Calls Tryd.prog 29 #[.string U] W fun e w' => e = .returned (argE x) ∧ Below W.heap.size W w') :
    Calls Tryd.prog 27 #[.slice A n c, .string U] w fun e w' => e = .returned (.tuple #[.slice none 0 0, .int .i64 0, argE x]) ∧ Below w.heap.size w w' := by
  go_enter Tryd.func27, Tryd.ntmps27
  go_wp2_with (go_at_call 29; refine (cb _).mono ?_; rintro e w1 ⟨rfl, hb⟩)
  go_ret3
  exact ⟨rfl, hb⟩
theorem content_len {bound q q2 : List UInt8} {k : Bool} {a b t : Int} (h : Mu.content bound q = some ((k, a, b, t), q2)) : (if Cr.spanB a b then b - a else 0) = b - a := by
  unfold Mu.content at h
  split at h
  · split at h
    · rename_i h0
      rw [Option.some.injEq, Prod.mk.injEq] at h
      have hok := Cr.parse_ok (l := (Mu.line (q.drop (Mu.lead bound).length)).1) (by simpa using h0)
      rw [h.1] at hok
      unfold Cr.ok at hok
      dsimp only at hok
      cases k
      · obtain ⟨rfl, rfl, _⟩ := Cr.right_not hok
        rfl
      · obtain ⟨h1, h2, h3, _⟩ := Cr.right_known hok
        rw [if_pos]
        unfold Cr.spanB
        rw [decide_eq_true h1, decide_eq_true h2, decide_eq_true h3]; rfl
    · cases h
  · cases h
theorem content_some_to {B : Nat} {k : Bool} {a b n : Int} {q : List UInt8} {w w' : World} {e : Ending} (h : ContentTo B (some ((k, a, b, n), q)) w e w') :
    ∃ A2 c2, e = .returned (.tuple #[.agg #[.bool k, .int .i64 a, .int .i64 b, .int .i64 n], .slice A2 q.length c2, .nilIface]) ∧ Bs w' B A2 q.length q ∧ q.length ≤ c2 ∧ Below w.heap.size w w' := by
  obtain ⟨hb, ⟨hx, _⟩ | ⟨_, _, _, _, _, A2, c2, hx, he, h1, h2⟩⟩ := h
  · cases hx
  · cases hx
    exact ⟨A2, c2, he, h1, h2, hb⟩
theorem body_none_to {B : Nat} {w w' : World} {e : Ending} (h : BodyTo B none w e w') : (∃ x, e = .returned (.tuple #[.slice none 0 0, .slice none 0 0, formE x])) ∧ Below w.heap.size w w' := by
  obtain ⟨hb, ⟨_, h1⟩ | ⟨_, _, _, _, _, _, hx, _⟩⟩ := h
  · exact ⟨h1, hb⟩
  · cases hx
theorem body_some_to {B : Nat} {own q : List UInt8} {w w' : World} {e : Ending} (h : BodyTo B (some (own, q)) w e w') :
    ∃ A1 c1 A2 c2, e = .returned (.tuple #[.slice A1 own.length c1, .slice A2 q.length c2, .nilIface]) ∧ Bs w' w'.heap.size A1 own.length own ∧ own.length ≤ c1 ∧ Bs w' B A2 q.length q ∧ q.length ≤ c2 ∧ (∀ x, A1 = some x → w.heap.size ≤ x.block) ∧ Below w.heap.size w w' := by
  obtain ⟨hb, ⟨hx, _⟩ | ⟨_, _, A1, c1, A2, c2, hx, he, h1, h2, h3, h4, h5⟩⟩ := h
  · cases hx
  · cases hx
    exact ⟨A1, c1, A2, c2, he, h1, h2, h3, h4, h5, hb⟩
/-- a new row's length: one that a slice has -/
def lenOf : Value → Nat
  | .slice _ n _ => n
  | _ => 0
/-- c's cells as they lie -/
def LayC (g : Nat) (a b t : Int) (w' : World) : Prop :=
  g < w'.heap.size ∧ w'.cell? ⟨g, 1, none⟩ = some (.int .i64 a) ∧ w'.cell? ⟨g, 2, none⟩ = some (.int .i64 b) ∧ w'.cell? ⟨g, 3, none⟩ = some (.int .i64 t)
theorem Mu.bulk_push (acc : List Mu.Part) (p : Mu.Part) : Mu.bulk (acc ++ [p]) = Mu.bulk acc + p.2.2.length := by
  unfold Mu.bulk
  rw [List.map_append, List.sum_append]
  simp
theorem runs_no {bound l : List UInt8} {acc : List Mu.Part} {t : Int} (h : Mu.Runs bound l [] 0 (some (acc, t))) (hn : ¬ (Mu.right acc t = true ∧ Mu.put acc t bound = l)) (L : List Mu.Part) (t2 : Int) : ¬ Mu.Is bound l L t2 := fun hi => by
  have := Mu.runs_is hi h
  injection this with this
  injection this with h1 h2
  subst h1 h2
  exact hn hi

set_option maxHeartbeats 16000000 in
set_option maxRecDepth 100000 in
theorem parts_right (A : Option Addr) (n c B : Nat) (l : List UInt8) (U : ByteArray) (w : World) (h : Bs w B A n l) (hB : B ≤ w.heap.size) (hc : n ≤ c) (hn : n ≤ 20000) (hU : U.size ≤ 40) (hmay : Mu.may U.data.toList = true) (hE : Env w)
    (cb : ∀ W, Calls Tryd.prog 29 #[.string U] W fun e w' => e = .returned .nilIface ∧ Below W.heap.size W w') :
    Calls Tryd.prog 27 #[.slice A n c, .string U] w (PartsTo U.data.toList l w) := by
  obtain ⟨i0, hi, hz, hsz, hby⟩ := info_parts part_info
  have HI := Lib.hid hi
  have HZ := Lib.hid hz
  have HSZ := Lib.hid hsz
  have HBY := Lib.hid hby
  clear hi hz hsz hby
  obtain ⟨D, hD⟩ : ∃ x, x = U.data.toList := ⟨_, rfl⟩
  rw [← hD] at hmay ⊢
  have ccl := fun W => closing_any U W hU
  rw [← hD] at ccl
  have hct := str_list (Mu.close D)
  generalize Str (Mu.close D) = C at ccl hct
  have HCT := Lib.hid hct
  have HS := Lib.hid h
  have HL : Hid (l.length = n) := Lib.hid h.1
  have HE := Lib.hid hE
  have HD := Lib.hid hD
  have HM := Lib.hid hmay
  clear h hE hD hct hmay
  go_enter Tryd.func27, Tryd.ntmps27
  go_wp2_with (first
    | (go_at_call 29; refine (cb _).mono ?_; rintro e w1 ⟨rfl, hb⟩; obtain ⟨cap, W1, kb, hc1, hb1⟩ := bytes_made C w1; have HB0 := Lib.hid (hb.trans (hb1.mono hb.size)); have HG0 := Lib.hid hc1; generalize w1.heap.size = g at *; clear hb hb1 hc1)
    | (go_at_call 21; refine (ccl _).mono ?_; rintro e w2 ⟨rfl, rfl⟩))
  clear kb cb ccl
  go_loopw [8, 9, 10] (fun v t r wr => ∃ (acc : List Mu.Part) (tot : Int) (q : List UInt8) (A1 : Option Addr) (c1 : Nat) (u : Value) (xs : List Value),
      u = v ∧ t = .int .i64 tot ∧ r = .slice A1 q.length c1 ∧ Hid (wr.ownsRow W1.heap.size 43 3 u acc.length xs) ∧ Hid (Held wr u xs acc) ∧ Hid (Bs wr B A1 q.length q) ∧ q.length ≤ c1 ∧ Hid (∀ x, Mu.Runs D q acc tot x → Mu.Runs D l [] 0 x) ∧
      Hid (Mu.bulk acc + q.length ≤ l.length) ∧ Hid (acc.length + q.length ≤ l.length) ∧ Hid (Below W1.heap.size W1 wr))
    (fun _ _ r _ => lenOf r)
  case atStart => exact ⟨[], 0, l, A, c, _, [], rfl, rfl, by rw [HL.out], Lib.hid (World.ownsRow_nil _ _ _ _), Lib.hid (Held.nil _ _), Lib.hid (by rw [HL.out]; exact HS.out.below (HB0.out.mono hB)), by rw [HL.out]; exact hc, Lib.hid (fun _ h => h), Lib.hid (by unfold Mu.bulk; simp), Lib.hid (by simp), Lib.hid (Below.refl _ _)⟩
  case round =>
    obtain ⟨acc, tot, q, A1, c1, u, xs, rfl, rfl, rfl, HO, HH, HQ, hqc, HR, HBU, HLE, HB1⟩ := hrel
    have HB := Lib.hid (HB0.out.trans (HB1.out.mono HB0.out.size))
    have HG := Lib.hid (HG0.out.below HB1.out)
    have HEr := Lib.hid (HE.out.on HB.out)
    have hql : q.length ≤ 20000 := by have h1 := HLE.out; have h2 := HL.out; omega
    have ce : Calls Tryd.prog 35 #[.slice A1 q.length c1, .slice (some ⟨g, 0, none⟩) C.size cap] wr fun e w' => e = .returned (.bool (q == Mu.close D)) ∧ wr = w' := by
      have h1 := HG.out.bs
      rw [size_list] at h1
      have h2 := equal_any (c := c1) (d := cap) HQ.out h1
      rw [HCT.out] at h2
      exact h2
    cases hq : (q == Mu.close D) with
    | true =>
      rw [hq] at ce
      have hq2 : q = Mu.close D := by simpa using hq
      have HR2 : Hid (Mu.Runs D l [] 0 (some (acc, tot))) := Lib.hid (HR.out _ (.done hq2))
      clear hq hq2
      obtain ⟨A2, c2, hu, hps, hnc⟩ := HH.out.parts HO.out rfl
      subst hu
      have hbk : Mu.bulk acc ≤ 100000 := by have h1 := HBU.out; have h2 := HL.out; omega
      have hal : acc.length ≤ 9223372036854775807 := by have h1 := HLE.out; have h2 := HL.out; omega
      have cp := put_any A2 acc.length c2 wr.heap.size acc tot U wr hps (Nat.le_refl _) hal (by omega) hbk HEr.out
      rw [← HD.out] at cp
      have HPS := Lib.hid hps
      clear hps hbk hal
      have hfi : Mu.fine acc tot D = Mu.right acc tot := by unfold Mu.fine; rw [HM.out, Bool.and_true]
      rw [hfi] at cp
      cases hr : Mu.right acc tot with
      | false =>
        rw [hr] at cp
        have HNO := Lib.hid (runs_no HR2.out (fun h => by rw [hr] at h; cases h.1))
        clear hr hfi
        go_wp2_with (first
          | (go_at_call 35; refine ce.mono ?_; rintro e w2 ⟨rfl, rfl⟩)
          | (go_at_call 8; refine cp.mono ?_; rintro e w3 ⟨hb, ⟨hx, _⟩ | ⟨_, rfl⟩⟩; (first | cases hx | skip); replace HB := Lib.hid (HB.out.trans (hb.mono HB.out.size)); clear hb))
        go_ret3
        exact ⟨HB.out, .inr ⟨HNO.out, _, rfl⟩⟩
      | true =>
        rw [hr, if_pos rfl] at cp
        have HRR := Lib.hid hr
        clear hr hfi
        cases hm : (Mu.put acc tot D == l) with
        | false =>
          have HNO := Lib.hid (runs_no HR2.out (fun h => by rw [h.2] at hm; simp at hm))
          have HMM := Lib.hid hm
          clear hm
          go_wp2_with (first
            | (go_at_call 35; (with_reducible refine ce.mono ?_); rintro e w2 ⟨rfl, rfl⟩; clear ce)
            | (go_at_call 8; refine cp.mono ?_; rintro e w3 ⟨hb, ⟨_, A3, c3, rfl, hs3, hc3⟩ | ⟨hx, _⟩⟩; (first | cases hx | skip); have hl3 := HS.out.below ((HB.out.trans (hb.mono HB.out.size)).mono hB); have ce3 := equal_any (c := c3) (d := c) hs3 hl3; rw [HMM.out] at ce3; replace HB := Lib.hid (HB.out.trans (hb.mono HB.out.size)); clear hb hs3 hl3)
            | (go_at_call 35; refine ce3.mono ?_; rintro e w4 ⟨rfl, rfl⟩; clear ce3))
          go_ret3
          exact ⟨HB.out, .inr ⟨HNO.out, _, rfl⟩⟩
        | true =>
          have HIS : Hid (Mu.Is D l acc tot) := Lib.hid ⟨HRR.out, by simpa using hm⟩
          have HMM := Lib.hid hm
          clear hm
          go_wp2_with (first
            | (go_at_call 35; (with_reducible refine ce.mono ?_); rintro e w2 ⟨rfl, rfl⟩; clear ce)
            | (go_at_call 8; refine cp.mono ?_; rintro e w3 ⟨hb, ⟨_, A3, c3, rfl, hs3, hc3⟩ | ⟨hx, _⟩⟩; (first | cases hx | skip); have hl3 := HS.out.below ((HB.out.trans (hb.mono HB.out.size)).mono hB); have ce3 := equal_any (c := c3) (d := c) hs3 hl3; rw [HMM.out] at ce3; replace HB := Lib.hid (HB.out.trans (hb.mono HB.out.size)); replace HPS := Lib.hid ((HPS.out.below hb).mono hb.size); clear hb hs3 hl3)
            | (go_at_call 35; refine ce3.mono ?_; rintro e w4 ⟨rfl, rfl⟩; clear ce3))
          go_ret3
          exact ⟨HB.out, .inl ⟨acc, tot, A2, acc.length, c2, HIS.out, rfl, HPS.out, hnc⟩⟩
    | false =>
      rw [hq] at ce
      have hqn : q ≠ Mu.close D := by intro e; rw [e] at hq; simp at hq
      have HQN := Lib.hid hqn
      clear hq hqn
      have cco := content_any A1 q.length c1 B q U wr HQ.out (Nat.le_trans hB HB.out.size) hqc (by omega) hU HEr.out
      rw [← HD.out] at cco
      cases hcn : Mu.content D q with
      | none =>
        rw [hcn] at cco
        have HNO := Lib.hid (Mu.runs_none (HR.out _ (.noLine HQN.out hcn)))
        clear hcn
        go_wp2_with (first
          | (go_at_call 35; refine ce.mono ?_; rintro e w2 ⟨rfl, rfl⟩)
          | (go_at_call 36; refine cco.mono ?_; rintro e w3 ⟨hb, ⟨_, x, rfl⟩ | ⟨_, _, _, _, _, _, _, hx, _⟩⟩; (first | cases hx | skip); replace HB := Lib.hid (HB.out.trans (hb.mono HB.out.size)); clear hb))
        go_ret3
        exact ⟨HB.out.alloc HB.out.size _, .inr ⟨HNO.out, _, rfl⟩⟩
      | some y =>
        obtain ⟨⟨k, a, b, t⟩, q2⟩ := y
        rw [hcn] at cco
        have hlen := content_len hcn
        obtain ⟨⟨ha0, hab, hb1, _, _⟩, hq2l⟩ := Mu.content_some hcn
        dsimp only at ha0 hab hb1
        have cl := fun W => spanLen_any a b W
        rw [hlen] at cl
        have HCN := Lib.hid hcn
        have HQ2 := Lib.hid hq2l
        have hm0 : 0 ≤ b - a := by omega
        have hm1 : b - a ≤ 4611686018427387903 := by omega
        clear hcn hlen hq2l
        cases hbn : Mu.body q2 (b - a) with
        | none =>
          have HNO := Lib.hid (Mu.runs_none (HR.out _ (.noBody HQN.out HCN.out hbn)))
          have HBN := Lib.hid hbn
          clear hbn
          have HBD := fun (w4 : World) (A2 : Option Addr) (c2 : Nat) (h1 : Bs w4 B A2 q2.length q2) (h2 : B ≤ w4.heap.size) (h3 : q2.length ≤ c2) => body_any A2 q2.length c2 B (b - a) q2 w4 h1 h2 h3 hm0 (by have := HQ2.out; omega)
          rw [HBN.out] at HBD
          replace HBD := Lib.hid HBD
          go_wp2_with (first
            | (go_at_call 35; refine ce.mono ?_; rintro e w2 ⟨rfl, rfl⟩)
            | (go_at_call 36; refine cco.mono ?_; intro e w3 hto; obtain ⟨A2, c2, rfl, hs2, hc2, hb⟩ := content_some_to hto; have F4 := Lib.hid (Four.new w3 (.bool k) (.int .i64 a) (.int .i64 b) (.int .i64 t) 52); have hb2 := HB.out.trans (hb.mono HB.out.size); have HS2 := Lib.hid (hs2.alloc (Nat.le_trans hB hb2.size) (.cells #[.bool k, .int .i64 a, .int .i64 b, .int .i64 t] 52)); replace HB := Lib.hid (hb2.alloc hb2.size (.cells #[.bool k, .int .i64 a, .int .i64 b, .int .i64 t] 52)); obtain ⟨f0, f1, f2, f3, f4, _⟩ := F4.out; clear hb hb2 hs2 hto)
            | (go_at_call 25; refine (cl _).mono ?_; rintro e w4 ⟨rfl, hb⟩; replace HS2 := Lib.hid (HS2.out.below (hb.mono (Nat.le_trans hB HB.out.size))); replace HB := Lib.hid (HB.out.trans (hb.mono HB.out.size)); clear hb)
            | (go_at_call 37; refine (HBD.out _ _ _ HS2.out (Nat.le_trans hB HB.out.size) hc2).mono ?_; intro e w5 hto; obtain ⟨⟨x, rfl⟩, hb⟩ := body_none_to hto; replace HB := Lib.hid (HB.out.trans (hb.mono HB.out.size)); clear hb hto))
          go_ret3
          exact ⟨HB.out, .inr ⟨HNO.out, _, rfl⟩⟩
        | some z =>
          obtain ⟨own, q3⟩ := z
          obtain ⟨hol, hsum⟩ := Mu.body_some hm0 hbn
          have HBD := fun (w4 : World) (A2 : Option Addr) (c2 : Nat) (h1 : Bs w4 B A2 q2.length q2) (h2 : B ≤ w4.heap.size) (h3 : q2.length ≤ c2) => body_any A2 q2.length c2 B (b - a) q2 w4 h1 h2 h3 hm0 (by have := HQ2.out; omega)
          rw [hbn] at HBD
          replace HBD := Lib.hid HBD
          have HR2 : Hid (∀ x, Mu.Runs D q3 (acc ++ [(a, b, own)]) t x → Mu.Runs D l [] 0 x) := Lib.hid fun x hx => HR.out _ (.step HQN.out HCN.out hbn hx)
          have HSUM := Lib.hid hsum
          have hal : acc.length ≤ 20000 := by have h1 := HLE.out; have h2 := HL.out; omega
          have HAL := Lib.hid hal
          clear hbn hol hsum hal
          go_wp2_with (first
            | (go_at_call 35; refine ce.mono ?_; rintro e w2 ⟨rfl, rfl⟩)
            | (go_at_call 36; refine cco.mono ?_; intro e w3 hto; obtain ⟨A2, c2, rfl, hs2, hc2, hb⟩ := content_some_to hto; have F4 := Lib.hid (Four.new w3 (.bool k) (.int .i64 a) (.int .i64 b) (.int .i64 t) 52); have hb2 := HB.out.trans (hb.mono HB.out.size); have HS2 := Lib.hid (hs2.alloc (Nat.le_trans hB hb2.size) (.cells #[.bool k, .int .i64 a, .int .i64 b, .int .i64 t] 52)); have hlt := HO.out.lt; have HU := Lib.hid (fun (k : Nat) (hk : u.ownBlock = some k) => Nat.lt_of_lt_of_le (hlt k hk).2 hb.size); replace HO := Lib.hid ((own_at HO.out hb).alloc (.cells #[.bool k, .int .i64 a, .int .i64 b, .int .i64 t] 52)); replace HH := Lib.hid ((HH.out.below hb).below (below_new4 w3 (.cells #[.bool k, .int .i64 a, .int .i64 b, .int .i64 t] 52))); have hb9 := HB1.out.trans (hb.mono HB1.out.size); replace HB1 := Lib.hid (hb9.alloc hb9.size (.cells #[.bool k, .int .i64 a, .int .i64 b, .int .i64 t] 52)); clear hlt hb9; replace HB := Lib.hid (hb2.alloc hb2.size (.cells #[.bool k, .int .i64 a, .int .i64 b, .int .i64 t] 52)); obtain ⟨f0, f1, f2, f3, f4, _⟩ := F4.out; clear hb hb2 hs2 hto)
            | (go_at_call 25; refine (cl _).mono ?_; rintro e w4 ⟨rfl, hb⟩; replace HS2 := Lib.hid (HS2.out.below (hb.mono (Nat.le_trans hB HB.out.size))); replace HB := Lib.hid (HB.out.trans (hb.mono HB.out.size)); replace HO := Lib.hid (own_at HO.out hb); replace HH := Lib.hid (HH.out.below hb); replace HB1 := Lib.hid (HB1.out.trans (hb.mono HB1.out.size)); replace F4 := Lib.hid (F4.out.below hb); have HW4 := Lib.hid hb.size; clear hb)
            | (go_at_call 37; refine (HBD.out _ _ _ HS2.out (Nat.le_trans hB HB.out.size) hc2).mono ?_; intro e w5 hto; obtain ⟨A3, c3, A4, c4, rfl, hs3, hc3, hs4, hc4, hx5, hb⟩ := body_some_to hto; replace HB := Lib.hid (HB.out.trans (hb.mono HB.out.size)); replace HO := Lib.hid (own_at HO.out hb); replace HH := Lib.hid (HH.out.below hb); replace HB1 := Lib.hid (HB1.out.trans (hb.mono HB1.out.size)); replace F4 := Lib.hid (F4.out.below hb); have HS3 := Lib.hid hs3; have HS4 := Lib.hid hs4; have HX5 := Lib.hid hx5; clear hb hto hs3 hs4 hx5))
          clear f0 f1 f2 f3 f4
          have hF := F4.out
          have hP : LayC w3.heap.size a b t w5.drew := ⟨hF.1, by simpa using hF.2.2.1, by simpa using hF.2.2.2.1, by simpa using hF.2.2.2.2.1⟩
          have hF2 := F4.out.alloc (.cells #[.int .i64 a, .int .i64 b, .slice A3 own.length c3] 43)
          have hP2 : LayC w3.heap.size a b t (w5.alloc (.cells #[.int .i64 a, .int .i64 b, .slice A3 own.length c3] 43)).drew := ⟨hF2.1, by simpa using hF2.2.2.1, by simpa using hF2.2.2.2.1, by simpa using hF2.2.2.2.2.1⟩
          clear hF hF2
          go_region_held3 (fun w' => w3.heap.size < w'.heap.size ∧ w'.cell? ⟨w3.heap.size, 1, none⟩ = some (.int .i64 a) ∧ w'.cell? ⟨w3.heap.size, 2, none⟩ = some (.int .i64 b) ∧ w'.cell? ⟨w3.heap.size, 3, none⟩ = some (.int .i64 t))
            (first | exact hP | exact hP2 | exact hP3)
            ((refine step_append_lies _ (by rfl) _ _ _ (by rfl) W1.heap.size 43 i0 _ 3 40 Tryd.underlying22 HI.out HZ.out HSZ.out HBY.out rfl (by omega) u acc.length xs (by rfl) ((HO.out.alloc _).drew)
                ⟨w5.heap.size, 0, none⟩ 1 1 [.int .i64 a, .int .i64 b, .slice A3 own.length c3] (by rfl) (by rfl) (World.news_of_block (cs := #[.int .i64 a, .int .i64 b, .slice A3 own.length c3]) (t := 43) (fr := (0, 0)) (heap_alloc_new w5 _)) (by simp [Value.oneCell'])
                (by omega) (by have := HAL.out; unfold maxLen; omega) (by have := HAL.out; omega) (by have := HB1.out.size; simp; omega) (w5.heap.size + 1) (by simp) ?_
              intro gg cap2 w6 hown1 hgrow hat hlt6
              have hP3 : LayC w3.heap.size a b t w6 := ⟨Nat.lt_of_lt_of_le hP2.1 hgrow.size, (hgrow.cell_far ⟨w3.heap.size, 1, none⟩ hP2.1 (fun e => absurd (HU.out _ e.symm) (Nat.lt_irrefl _))).trans hP2.2.1, (hgrow.cell_far ⟨w3.heap.size, 2, none⟩ hP2.1 (fun e => absurd (HU.out _ e.symm) (Nat.lt_irrefl _))).trans hP2.2.2.1, (hgrow.cell_far ⟨w3.heap.size, 3, none⟩ hP2.1 (fun e => absurd (HU.out _ e.symm) (Nat.lt_irrefl _))).trans hP2.2.2.2⟩))
          have HG6 := Lib.hid hgrow
          have HO6 := Lib.hid hown1
          clear hgrow hown1 hP hP2 hP3
          go_wp2
          go_roundw
          case rel =>
            have hl1 : (acc ++ [((a, b, own) : Mu.Part)]).length = acc.length + 1 := by rw [List.length_append]; rfl
            have hlt5 := (HO.out.alloc (.cells #[.int .i64 a, .int .i64 b, .slice A3 own.length c3] 43)).lt
            have hb5 := ((HB1.out.alloc HB1.out.size (.cells #[.int .i64 a, .int .i64 b, .slice A3 own.length c3] 43)).drew).grown HG6.out (by have := HB1.out.size; simp; omega) (fun k hk => (hlt5 k hk).1)
            have hb6 := (((Below.refl W1.heap.size w5).alloc HB1.out.size (.cells #[.int .i64 a, .int .i64 b, .slice A3 own.length c3] 43)).drew).grown HG6.out (by have := HB1.out.size; simp; omega) (fun k hk => (hlt5 k hk).1)
            have hb7 : Below w5.heap.size w5 (w5.alloc (.cells #[.int .i64 a, .int .i64 b, .slice A3 own.length c3] 43)).drew := (below_new4 w5 _).drew
            refine ⟨acc ++ [(a, b, own)], t, q3, A4, c4, _, xs ++ [.int .i64 a, .int .i64 b, .slice A3 own.length c3], rfl, rfl, rfl, ?_, ?_, ?_, hc4, HR2, ?_, ?_, Lib.hid hb5⟩
            · rw [hl1]; exact HO6
            · exact Lib.hid (Held.push (HH.out.below hb7) HG6.out (hat.imp id (fun h => by rw [h]; simp)) ((HS3.out.below hb7).mono hb7.size) hc3 (fun x hx e => by have h1 := HX5.out x hx; have h2 := HU.out _ e; have h3 := HW4.out; simp at h3; omega))
            · exact Lib.hid (HS4.out.below (hb6.mono (Nat.le_trans hB HB0.out.size)))
            · exact Lib.hid (by have h1 := HBU.out; have h2 := HSUM.out; have h3 := HQ2.out; rw [Mu.bulk_push]; dsimp only; omega)
            · exact Lib.hid (by have h1 := HLE.out; have h2 := HSUM.out; have h3 := HQ2.out; rw [hl1]; omega)
          case measure => have h2 := HSUM.out; have h3 := HQ2.out; simp only [lenOf]; omega
end Go.Proofs.YtlilkcbhlinolaaDoor
