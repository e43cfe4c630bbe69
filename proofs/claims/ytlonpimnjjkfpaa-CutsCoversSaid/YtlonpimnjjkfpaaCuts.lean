/-
  Contracts of package cuts: Right, Count, Bounds, Last, Part, Of.
-/
import Derived.Test.YtlonpimnjjkfpaaCutsForms
import Derived.Test.YtlonpimnjjkfpaaSpanMeet
import Derived.Test.YtlonpimnjjkfpaaSpanLen
import Derived.IntWalk
import Derived.Deep.QuietTactic
import Derived.BigQuiet
namespace Go.Proofs.Ytlonpimnjjkfpaa
open Go.ChangeShapes Go.WideShapes Go.ChangeAt Go.RowKit

theorem cutsRight_walk (n s : Int) (p q r t : Bool) (w : World) (h1 : decide (0 ≤ n) = p) (h2 : decide (n ≤ 4096) = q) (h3 : decide (1 ≤ s) = r) (h4 : decide (s ≤ 64) = t) :
    Calls Try.prog 11 #[.int .i64 n, .int .i64 s] w fun e w' => e = .returned (.bool (p && q && r && t)) ∧ w = w' := by
  cases p <;> cases q <;> cases r <;> cases t
  all_goals
    go_enter Try.func11, Try.ntmps11
    go_wp2
    go_ret
    exact ⟨rfl, rfl⟩
theorem cutsRight_any (n s : Int) (w : World) :
    Calls Try.prog 11 #[.int .i64 n, .int .i64 s] w fun e w' => e = .returned (.bool (Cu.ok n s)) ∧ w = w' :=
  cutsRight_walk n s _ _ _ _ w rfl rfl rfl rfl

theorem cutsCount_walk (n s : Int) (ok : Bool) (w : World) (h : ok = true → 0 ≤ n ∧ n ≤ 4096 ∧ 1 ≤ s ∧ s ≤ 64)
    (cr : ∀ W, Calls Try.prog 11 #[.int .i64 n, .int .i64 s] W fun e w' => e = .returned (.bool ok) ∧ W = w') :
    Calls Try.prog 15 #[.int .i64 n, .int .i64 s] w fun e w' => e = .returned (.int .i64 (if ok then (n + s - 1) / s else 0)) ∧ w = w' := by
  cases ok with
  | false =>
    clear h
    go_enter Try.func15, Try.ntmps15
    go_wp2_with (go_at_call 11; refine (cr _).mono ?_; rintro e w1 ⟨rfl, rfl⟩)
    go_ret
    exact ⟨rfl, rfl⟩
  | true =>
    obtain ⟨h1, h2, h3, h4⟩ := h rfl
    have h5 := Int.ediv_nonneg (show 0 ≤ n + s - 1 by omega) (show 0 ≤ s by omega)
    have h6 := Int.ediv_le_self s (show 0 ≤ n + s - 1 by omega)
    have h7 : ¬ s = 0 := by omega
    have h8 : (s == 0) = false := by simpa using h7
    have h9 : 0 ≤ n + s - 1 := by omega
    have hq : (n + s - 1) / s ≤ 4160 := by omega
    have ht : (n + s - 1).tdiv s = (n + s - 1) / s := Int.tdiv_eq_ediv_of_nonneg h9
    clear h h6
    go_enter Try.func15, Try.ntmps15
    go_wp2_with (go_at_call 11; refine (cr _).mono ?_; rintro e w1 ⟨rfl, rfl⟩)
    go_ret
    exact ⟨rfl, rfl⟩
theorem cutsCount_any (n s : Int) (w : World) :
    Calls Try.prog 15 #[.int .i64 n, .int .i64 s] w fun e w' => e = .returned (.int .i64 (Cu.cnt n s)) ∧ w = w' :=
  cutsCount_walk n s _ w Cu.ok_parts (fun W => cutsRight_any n s W)

set_option maxHeartbeats 1000000 in
theorem cutsBounds_walk (i n s c x y : Int) (h : Bool) (w : World)
    (hh : (h = false ∧ x = 0 ∧ y = 0 ∧ (i < 0 ∨ (0 ≤ i ∧ c ≤ i))) ∨ (h = true ∧ 0 ≤ i ∧ i < 4096 ∧ i < c ∧ x = i * s ∧ 0 ≤ i * s ∧ i * s ≤ 262144 ∧ 0 ≤ (i + 1) * s ∧ (i + 1) * s ≤ 262144 ∧ 0 ≤ n ∧ n ≤ 4096 ∧ ((n < (i + 1) * s ∧ y = n) ∨ ((i + 1) * s ≤ n ∧ y = (i + 1) * s))))
    (cc : ∀ W, Calls Try.prog 15 #[.int .i64 n, .int .i64 s] W fun e w' => e = .returned (.int .i64 c) ∧ W = w') :
    Calls Try.prog 7 #[.int .i64 i, .int .i64 n, .int .i64 s] w fun e w' =>
      e = .returned (.tuple #[.agg #[.int .i64 x, .int .i64 y], .bool h]) ∧ Below w.heap.size w w' := by
  have D6 := Lib.hid (Duo.new w (.int .i64 0) (.int .i64 0) 23)
  obtain ⟨m6, x6, y6, f6, g6⟩ := D6.out
  rcases hh with ⟨rfl, rfl, rfl, h1 | ⟨h1, h2⟩⟩ | ⟨rfl, h1, h2, h3, rfl, h4, h5, h6, h7, h8, h9, ⟨h10, rfl⟩ | ⟨h10, rfl⟩⟩
  all_goals
    go_enter Try.func7, Try.ntmps7
    go_wp2_with (go_at_call 15; refine (cc _).mono ?_; rintro e w1 ⟨rfl, rfl⟩)
    refine bodyPost_ret ?_ rfl ⟨rfl, below_one w _⟩
    simp [results, Try.results7, go_sem, x6, y6]
theorem cutsBounds_any (i n s : Int) (w : World) :
    Calls Try.prog 7 #[.int .i64 i, .int .i64 n, .int .i64 s] w fun e w' =>
      e = .returned (.tuple #[.agg #[.int .i64 (Cu.bd i n s).1, .int .i64 (Cu.bd i n s).2], .bool (Cu.has i n s)]) ∧ Below w.heap.size w w' := by
  refine cutsBounds_walk i n s (Cu.cnt n s) _ _ _ w ?_ (fun W => cutsCount_any n s W)
  cases hh : Cu.has i n s with
  | false =>
    rw [Cu.bd_no hh]
    refine .inl ⟨rfl, rfl, rfl, ?_⟩
    by_cases h1 : i < 0
    · exact .inl h1
    · have h2 := Cu.has_cnt i n s (by omega)
      rw [hh] at h2
      have h3 := of_decide_eq_false h2.symm
      exact .inr ⟨by omega, by omega⟩
  | true =>
    obtain ⟨h1, h2, h3⟩ := Cu.has_parts hh
    obtain ⟨h4, h5, h6, h7⟩ := Cu.ok_parts h1
    have h8 := Cu.has_i hh
    obtain ⟨h9, h10⟩ := Cu.mul_le h2 (by omega) h6 h7
    obtain ⟨h11, h12⟩ := Cu.mul_le (i := i + 1) (by omega) (by omega) h6 h7
    have h13 := Cu.has_cnt i n s h2
    rw [hh] at h13
    have h14 := of_decide_eq_true h13.symm
    rw [Cu.bd_yes hh]
    refine .inr ⟨rfl, h2, h8, h14, rfl, h9, h10, h11, h12, h4, h5, ?_⟩
    rw [Int.add_mul, Int.one_mul]
    dsimp only
    omega

theorem cutsLast_walk (n s c x y l : Int) (h : Bool) (w : World) (hc : 0 ≤ c ∧ c ≤ 4096)
    (cc : ∀ W, Calls Try.prog 15 #[.int .i64 n, .int .i64 s] W fun e w' => e = .returned (.int .i64 c) ∧ W = w')
    (cb : ∀ W, Calls Try.prog 7 #[.int .i64 (c - 1), .int .i64 n, .int .i64 s] W fun e w' => e = .returned (.tuple #[.agg #[.int .i64 x, .int .i64 y], .bool h]) ∧ Below W.heap.size W w')
    (cl : ∀ W, Calls Try.prog 22 #[.agg #[.int .i64 x, .int .i64 y]] W fun e w' => e = .returned (.int .i64 l) ∧ Below W.heap.size W w') :
    Calls Try.prog 16 #[.int .i64 n, .int .i64 s] w fun e w' => e = .returned (.int .i64 l) ∧ Below w.heap.size w w' := by
  have HB := Lib.hid (Below.refl w.heap.size w)
  obtain ⟨hc1, hc2⟩ := hc
  go_enter Try.func16, Try.ntmps16
  go_wp2_with (first
    | (go_at_call 15; refine (cc _).mono ?_; rintro e w1 ⟨rfl, rfl⟩)
    | (go_at_call 7; refine (cb _).mono ?_; rintro e w2 ⟨rfl, hb⟩; replace HB := Lib.hid (HB.out.trans (hb.mono HB.out.size)); clear hb cb)
    | (go_at_call 22; refine (cl _).mono ?_; rintro e w3 ⟨rfl, hb⟩; replace HB := Lib.hid ((HB.out.alloc HB.out.size _).trans (hb.mono (HB.out.alloc HB.out.size _).size)); clear hb cl))
  go_ret
  exact ⟨rfl, HB.out⟩
theorem cutsLast_any (n s : Int) (w : World) :
    Calls Try.prog 16 #[.int .i64 n, .int .i64 s] w fun e w' => e = .returned (.int .i64 (Cu.last n s)) ∧ Below w.heap.size w w' := by
  have h := cutsLast_walk n s (Cu.cnt n s) _ _ _ _ w (Cu.cnt_le n s) (fun W => cutsCount_any n s W) (fun W => cutsBounds_any (Cu.cnt n s - 1) n s W) (fun W => spanLen_any _ _ W)
  have e : (if Cr.spanB (Cu.bd (Cu.cnt n s - 1) n s).1 (Cu.bd (Cu.cnt n s - 1) n s).2 then (Cu.bd (Cu.cnt n s - 1) n s).2 - (Cu.bd (Cu.cnt n s - 1) n s).1 else 0) = Cu.last n s := by
    unfold Cu.last
    cases hh : Cu.has (Cu.cnt n s - 1) n s with
    | true => rw [Cu.bd_right hh]; rfl
    | false => rw [Cu.bd_no hh]; rfl
  rw [e] at h
  exact h

theorem cutsPart_walk (a b i n s x y p0 p1 : Int) (h q : Bool) (w : World)
    (cb : ∀ W, Calls Try.prog 7 #[.int .i64 i, .int .i64 n, .int .i64 s] W fun e w' => e = .returned (.tuple #[.agg #[.int .i64 x, .int .i64 y], .bool h]) ∧ Below W.heap.size W w')
    (cm : ∀ W, Calls Try.prog 20 #[.agg #[.int .i64 a, .int .i64 b], .agg #[.int .i64 x, .int .i64 y]] W fun e w' => e = .returned (.tuple #[.agg #[.int .i64 p0, .int .i64 p1], .bool q]) ∧ Below W.heap.size W w') :
    Calls Try.prog 9 #[.agg #[.int .i64 a, .int .i64 b], .int .i64 i, .int .i64 n, .int .i64 s] w fun e w' =>
      e = .returned (.tuple #[.agg #[.int .i64 p0, .int .i64 p1], .bool q]) ∧ Below w.heap.size w w' := by
  have HB := Lib.hid (below_new2 w (.cells #[.int .i64 a, .int .i64 b] 23) (.cells #[.int .i64 0, .int .i64 0] 23))
  have D4 := Lib.hid ((Duo.new w (.int .i64 a) (.int .i64 b) 23).alloc (.cells #[.int .i64 0, .int .i64 0] 23))
  have D8 := Lib.hid (Duo.second w (.cells #[.int .i64 a, .int .i64 b] 23) (.int .i64 0) (.int .i64 0) 23)
  go_enter Try.func9, Try.ntmps9
  go_wp2_with (first
    | (go_at_call 7; refine (cb _).mono ?_; rintro e w1 ⟨rfl, hb⟩; replace HB := Lib.hid (HB.out.trans (hb.mono HB.out.size)); replace D4 := Lib.hid (D4.out.below hb); replace D8 := Lib.hid (D8.out.below hb); clear hb cb; obtain ⟨m4, x4, y4, -, -⟩ := D4.out)
    | (go_at_call 20; refine (cm _).mono ?_; rintro e w2 ⟨rfl, hb⟩; replace HB := Lib.hid ((HB.out.alloc HB.out.size _).trans (hb.mono (HB.out.alloc HB.out.size _).size)); replace D8 := Lib.hid ((D8.out.alloc _).below hb); clear hb cm m4 x4 y4; obtain ⟨m8, x8, y8, f8, g8⟩ := D8.out))
  refine bodyPost_ret ?_ rfl ⟨rfl, below_put2 HB.out (by omega) _ _ _ _⟩
  simp [results, Try.results9, go_sem, x8, y8]
theorem cutsPart_any (a b i n s : Int) (w : World) :
    Calls Try.prog 9 #[.agg #[.int .i64 a, .int .i64 b], .int .i64 i, .int .i64 n, .int .i64 s] w fun e w' =>
      e = .returned (.tuple #[.agg #[.int .i64 (Cu.meet a b (Cu.bd i n s).1 (Cu.bd i n s).2).1, .int .i64 (Cu.meet a b (Cu.bd i n s).1 (Cu.bd i n s).2).2], .bool (Cu.meets a b (Cu.bd i n s).1 (Cu.bd i n s).2)]) ∧ Below w.heap.size w w' :=
  cutsPart_walk a b i n s _ _ _ _ _ _ w (fun W => cutsBounds_any i n s W) (fun W => spanMeet_any a b _ _ W)

theorem cutsOf_no (a b s : Int) (p q : Bool) (w : World) (h : p = false ∨ (p = true ∧ q = false))
    (cs : ∀ W, Calls Try.prog 21 #[.agg #[.int .i64 a, .int .i64 b]] W fun e w' => e = .returned (.bool p) ∧ Below W.heap.size W w')
    (cr : ∀ W, Calls Try.prog 11 #[.int .i64 0, .int .i64 s] W fun e w' => e = .returned (.bool q) ∧ W = w') :
    Calls Try.prog 13 #[.agg #[.int .i64 a, .int .i64 b], .int .i64 s] w fun e w' => e = .returned (.tuple #[.int .i64 0, .int .i64 0]) ∧ Below w.heap.size w w' := by
  have HB := Lib.hid (below_one w (.cells #[.int .i64 a, .int .i64 b] 23))
  rcases h with rfl | ⟨rfl, rfl⟩
  all_goals
    go_enter Try.func13, Try.ntmps13
    go_wp2_with (first
      | (go_at_call 21; refine (cs _).mono ?_; rintro e w1 ⟨rfl, hb⟩; replace HB := Lib.hid (HB.out.trans (hb.mono HB.out.size)); clear hb cs)
      | (go_at_call 11; refine (cr _).mono ?_; rintro e w2 ⟨rfl, rfl⟩))
    go_ret2
    exact ⟨rfl, HB.out⟩
theorem cutsOf_yes (a b s : Int) (w : World) (h1 : 0 ≤ a) (h2 : a < b) (h3 : b ≤ 4611686018427387903) (h4 : 1 ≤ s) (h5 : s ≤ 64)
    (cs : ∀ W, Calls Try.prog 21 #[.agg #[.int .i64 a, .int .i64 b]] W fun e w' => e = .returned (.bool true) ∧ Below W.heap.size W w')
    (cr : ∀ W, Calls Try.prog 11 #[.int .i64 0, .int .i64 s] W fun e w' => e = .returned (.bool true) ∧ W = w') :
    Calls Try.prog 13 #[.agg #[.int .i64 a, .int .i64 b], .int .i64 s] w fun e w' => e = .returned (.tuple #[.int .i64 (a / s), .int .i64 ((b - 1) / s + 1)]) ∧ Below w.heap.size w w' := by
  have HB := Lib.hid (below_one w (.cells #[.int .i64 a, .int .i64 b] 23))
  have D2 := Lib.hid (Duo.new w (.int .i64 a) (.int .i64 b) 23)
  have q1 : ¬ s = 0 := by omega
  have q2 : (s == 0) = false := by simpa using q1
  have q3 : a.tdiv s = a / s := Int.tdiv_eq_ediv_of_nonneg h1
  have q4 : (b - 1).tdiv s = (b - 1) / s := Int.tdiv_eq_ediv_of_nonneg (by omega)
  have q5 : 0 ≤ a / s := Int.ediv_nonneg h1 (by omega)
  have q6 : a / s ≤ a := Int.ediv_le_self s h1
  have q7 : 0 ≤ (b - 1) / s := Int.ediv_nonneg (by omega) (by omega)
  have q8 : (b - 1) / s ≤ b - 1 := Int.ediv_le_self s (by omega)
  have q9 : IntKind.i64.wrap (b - 1) = b - 1 := IntWalk.i64_in _ (by omega)
  have qa : IntKind.i64.wrap (a / s) = a / s := IntWalk.i64_in _ (by omega)
  have qb : wrap64 (a / s) = a / s := IntWalk.wrap64_in _ (by omega)
  have qc : IntKind.i64.wrap ((b - 1) / s) = (b - 1) / s := IntWalk.i64_in _ (by omega)
  have qd : wrap64 ((b - 1) / s) = (b - 1) / s := IntWalk.wrap64_in _ (by omega)
  have qe : IntKind.i64.wrap ((b - 1) / s + 1) = (b - 1) / s + 1 := IntWalk.i64_in _ (by omega)
  generalize a / s = u at *
  generalize (b - 1) / s = v at *
  go_enter Try.func13, Try.ntmps13
  go_wp2_with (first
    | (go_at_call 21; refine (cs _).mono ?_; rintro e w1 ⟨rfl, hb⟩; replace HB := Lib.hid (HB.out.trans (hb.mono HB.out.size)); replace D2 := Lib.hid (D2.out.below hb); clear hb cs; obtain ⟨m2, x2, y2, -, -⟩ := D2.out)
    | (go_at_call 11; refine (cr _).mono ?_; rintro e w2 ⟨rfl, rfl⟩; clear cr))
  go_quiet (fail)
  go_wp2
  go_ret2
  exact ⟨rfl, below_drewN HB.out _⟩
theorem cutsOf_any (a b s : Int) (w : World) :
    Calls Try.prog 13 #[.agg #[.int .i64 a, .int .i64 b], .int .i64 s] w fun e w' => e = .returned (.tuple #[.int .i64 (Cu.of a b s).1, .int .i64 (Cu.of a b s).2]) ∧ Below w.heap.size w w' := by
  have cs := fun W => spanRight_any a b W
  have cr := fun W => cutsRight_any 0 s W
  by_cases h : Cr.spanB a b = true ∧ 1 ≤ s ∧ s ≤ 64
  · obtain ⟨h1, h2, h3⟩ := h
    rw [h1] at cs
    rw [Cu.ok_of (by omega) (by omega) h2 h3] at cr
    obtain ⟨h4, h5, h6⟩ := spanB_parts h1
    have e : Cu.of a b s = (a / s, (b - 1) / s + 1) := by unfold Cu.of; rw [h1, decide_eq_true h2, decide_eq_true h3]; rfl
    rw [e]
    exact cutsOf_yes a b s w h4 h5 h6 h2 h3 cs cr
  · have e : Cu.of a b s = (0, 0) := by
      unfold Cu.of
      refine if_neg fun hc => h ?_
      simpa [and_assoc] using hc
    rw [e]
    refine cutsOf_no a b s _ _ w ?_ cs cr
    cases h1 : Cr.spanB a b with
    | false => exact .inl rfl
    | true =>
      refine .inr ⟨rfl, ?_⟩
      cases h2 : Cu.ok 0 s with
      | false => rfl
      | true =>
        obtain ⟨_, _, h3, h4⟩ := Cu.ok_parts h2
        exact absurd ⟨h1, h3, h4⟩ h

theorem cuts_right : CutsRight := fun n s W _ _ => (cutsRight_any n s W).mono fun _ _ ⟨he, hw⟩ => ⟨he, hw ▸ Below.refl _ _⟩
theorem cuts_count : CutsCount := fun n s W _ _ => (cutsCount_any n s W).mono fun _ _ ⟨he, hw⟩ => ⟨he, hw ▸ Below.refl _ _⟩
theorem cuts_last : CutsLast := fun n s W _ _ => cutsLast_any n s W
theorem cuts_bounds : CutsBounds := fun i n s W _ _ _ => cutsBounds_any i n s W
theorem cuts_part : CutsPart := fun a b i n s W _ _ _ _ _ => cutsPart_any a b i n s W
theorem cuts_of : CutsOf := fun a b s W _ _ _ => cutsOf_any a b s W
end Go.Proofs.Ytlonpimnjjkfpaa
