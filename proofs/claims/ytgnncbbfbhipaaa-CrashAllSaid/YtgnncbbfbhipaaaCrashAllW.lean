/-
  The walk of CrashAll.
-/
import Derived.Test.YtgnncbbfbhipaaaCrashSta
import Derived.ControlIn
import Derived.Test.YtgnncbbfbhipaaaFlashRefCrash
import Derived.BigQuiet
import Derived.Deep.QuietTactic
namespace Go.Proofs.Ytgnncbbfbhipaaa
open Go.ChangeShapes Go.WideShapes Go.ChangeAt Go.RowKit Go.Shelf
set_option maxRecDepth 100000
attribute [local go_sem] Oper.semAt_some

theorem res_cell {U : World} {tm : Array Value} {b : Nat} (h4 : tm.getD 10 undef = .pointer (some ⟨b, 0, none⟩)) (hc : U.cell? ⟨b, 0, none⟩ = some (.bool true)) : (results Try.f4 tm).run Try.prog U = .ok (.bool true) U := by
  have h5 : tm[10]?.getD undef = .pointer (some ⟨b, 0, none⟩) := by simpa using h4
  simp [results, Try.results4, h5, go_sem, hc, asAddr, loadVar]
/-- what is left off its end alone -/
def onlyN (R : Act → World → Prop) : Exit → Act → World → Prop
  | .normal, a, w => R a w
  | .ret, _, _ => False
  | .exit _, _, _ => False
  | .goto _, _, _ => False
  | .panic _, _, _ => False
  | .outgrown, _, _ => False
set_option maxHeartbeats 16000000 in
theorem crashAll_walk (x cut stop i : Int) (K : Nat) (t u : Int) (w : World) (hK : K < 18446744073709551616) :
    Calls Try.prog 4 #[.int .i64 x, .int .i64 cut, .int .i64 stop, .int .i64 i, .agg #[.int .u64 K, .int .i64 t, .int .i64 u]] w (Yes w) := by
  have ca := fun W => awake12 W
  have cf := fun W => allFn_any x W
  obtain ⟨k, hk⟩ : ∃ k, k = tld x := ⟨_, rfl⟩
  obtain ⟨M, hM⟩ : ∃ M : Int, (if x < 0 then (0 : Int) else x) = M := ⟨_, rfl⟩
  have hM2 : (if (10 : Int) < M then (10 : Int) else M) = (k : Int) := by
    rw [hk, ← hM]
    unfold tld
    split <;> split <;> omega
  have HK10 : Hid (k ≤ 10) := Lib.hid (by rw [hk]; exact tld_le x)
  have HKE := Lib.hid hk
  have HKK := Lib.hid hK
  clear hk hK
  unfold Yes
  refine (callsIn_wide (n := 30)).1 ?_
  refine callsIn_of_wp_marks Try.func4 rfl trivial ?_ rfl
  simp only [Try.ntmps4, List.size_toArray, List.length_cons, List.length_nil, Nat.reduceAdd, Nat.reduceSub, Array.replicate_succ, Array.replicate_zero, List.push_toArray, List.append_toArray, List.nil_append, List.cons_append]
  gi_wp2_with (first
    | (refine ⟨trivial, ?_⟩; refine (callsIn_wide.2 (ca _)).mono ?_; rintro e w1 ⟨rfl, hb1⟩)
    | (refine ⟨trivial, ?_⟩; refine (callsIn_wide.2 (cf _)).mono ?_; rintro e w2 ⟨rfl, rfl⟩))
  rename_i Kr hKr
  clear ca hM hM2
  -- what the own variables hold
  obtain ⟨w9, hw9⟩ : ∃ w9, w9 = (((w.alloc (.cells #[.int .i64 cut] 3)).alloc (.cells #[.int .i64 stop] 3)).alloc (.cells #[.int .u64 K, .int .i64 t, .int .i64 u] 27)).alloc (.cells #[.bool false] 4) := ⟨_, rfl⟩
  rw [← hw9] at hb1
  have hs9 : w9.heap.size = w.heap.size + 4 := by rw [hw9]; simp
  have q1 : Boxed w1 w.heap.size 3 (.int .i64 cut) := (hb1.block _ (by omega)).trans (by rw [hw9]; exact (((Boxed.new w 3 (.int .i64 cut)).alloc _).alloc _).alloc _)
  have q2 : Boxed w1 (w.heap.size + 1) 3 (.int .i64 stop) := (hb1.block _ (by omega)).trans (by
    have := ((Boxed.new (w.alloc (.cells #[.int .i64 cut] 3)) 3 (.int .i64 stop)).alloc (.cells #[.int .u64 K, .int .i64 t, .int .i64 u] 27)).alloc (.cells #[.bool false] 4)
    rw [World.size_alloc] at this
    rw [hw9]; exact this)
  have q3 : w1.heap[w.heap.size + 1 + 1]? = some (.cells #[.int .u64 K, .int .i64 t, .int .i64 u] 27 (0, 0)) := (hb1.block _ (by omega)).trans (by
    have h := World.alloc_heap_new ((w.alloc (.cells #[.int .i64 cut] 3)).alloc (.cells #[.int .i64 stop] 3)) (.cells #[.int .u64 K, .int .i64 t, .int .i64 u] 27)
    simp only [World.size_alloc] at h
    rw [hw9]
    exact (Below.heap_alloc _ _ _ (by simp)).trans h)
  have q4 : Boxed w1 (w.heap.size + 1 + 1 + 1) 4 (.bool false) := (hb1.block _ (by omega)).trans (by
    have := Boxed.new (((w.alloc (.cells #[.int .i64 cut] 3)).alloc (.cells #[.int .i64 stop] 3)).alloc (.cells #[.int .u64 K, .int .i64 t, .int .i64 u] 27)) 4 (.bool false)
    simp only [World.size_alloc] at this
    rw [hw9]; exact this)
  have q5 : Below w.heap.size w w1 := by
    have h : Below w.heap.size w w9 := by
      rw [hw9]
      exact ((((Below.refl _ w).alloc (Nat.le_refl _) _).alloc (by simp) _).alloc (by simp; omega) _).alloc (by simp; omega) _
    exact h.trans (hb1.mono (by omega))
  have hsw : w.heap.size + 4 ≤ w1.heap.size := by have := hb1.size; omega
  clear hb1 hw9 hs9
  have s1 : Sta w w1.heap.size cut stop K t u k (w1.alloc (.cells #[.int .i64 k] 3)) := ⟨q1.alloc _, q2.alloc _, (Below.heap_alloc _ _ _ (by omega)).trans q3, q4.alloc _, Boxed.new w1 3 (.int .i64 k), q5.alloc q5.size _⟩
  have s2 := ((s1.alloc (.cells #[.int .u64 0] 25)).alloc (.cells #[.int .i64 0] 3)).alloc (.cells #[.int .i64 x] 3)
  have bK := ((Boxed.new (w1.alloc (.cells #[.int .i64 k] 3)) 25 (.int .u64 0)).alloc (.cells #[.int .i64 0] 3)).alloc (.cells #[.int .i64 x] 3)
  have bC := (Boxed.new ((w1.alloc (.cells #[.int .i64 k] 3)).alloc (.cells #[.int .u64 0] 25)) 3 (.int .i64 0)).alloc (.cells #[.int .i64 x] 3)
  have bN := Boxed.new (((w1.alloc (.cells #[.int .i64 k] 3)).alloc (.cells #[.int .u64 0] 25)).alloc (.cells #[.int .i64 0] 3)) 3 (.int .i64 x)
  have hsV : ((((w1.alloc (.cells #[.int .i64 k] 3)).alloc (.cells #[.int .u64 0] 25)).alloc (.cells #[.int .i64 0] 3)).alloc (.cells #[.int .i64 x] 3)).heap.size = w1.heap.size + 4 := by simp
  simp only [World.size_alloc] at bK bC bN
  clear s1 q1 q2 q3 q4 q5
  obtain ⟨V, hV⟩ : ∃ V, V = (((w1.alloc (.cells #[.int .i64 k] 3)).alloc (.cells #[.int .u64 0] 25)).alloc (.cells #[.int .i64 0] 3)).alloc (.cells #[.int .i64 x] 3) := ⟨_, rfl⟩
  rw [← hV] at s2 bK bC bN hsV ⊢
  clear hV
  have ha := all_its x (w1.heap.size + 1 + 1 + 1) V bN.cell
  rw [← HKE.out] at ha
  obtain ⟨N, hN⟩ : ∃ N, N = 2 ^ k := ⟨_, rfl⟩
  rw [← hN] at ha
  have HN := Lib.hid hN
  have hN1 : N ≤ 1024 := by rw [hN]; exact Nat.le_trans (Nat.pow_le_pow_right (by omega) HK10.out) (by decide)
  clear hN
  have key : ∀ (D : Nat) (X : World) (cv : Nat), V.heap.size ≤ D → Sta w w1.heap.size cut stop K t u k X → Boxed X (w1.heap.size + 1 + 1) 3 (.int .i64 cv) → (cv ≠ N → (cv : Int) = stop) → X.heap[D]? = some (.deferred (some [])) →
      Kr { tmps := #[.int .i64 x, .int .i64 cut, .int .i64 stop, .int .i64 i, .agg #[.int .u64 K, .int .i64 t, .int .i64 u], undef, .pointer (some ⟨w.heap.size, 0, none⟩), .pointer (some ⟨w.heap.size + 1, 0, none⟩), undef, .pointer (some ⟨w.heap.size + 1 + 1, 0, none⟩), .pointer (some ⟨w.heap.size + 1 + 1 + 1, 0, none⟩), .pointer (some ⟨w1.heap.size, 0, none⟩), .pointer (some ⟨w1.heap.size + 1, 0, none⟩), .pointer (some ⟨w1.heap.size + 1 + 1, 0, none⟩), undef, undef, undef, undef, .bool true, .bool false, .int .i64 x, .int .i64 M, .int .i64 k, .int .i64 x, .func (.func 43) #[] #[.pointer (some ⟨w1.heap.size + 1 + 1 + 1, 0, none⟩)], undef, undef, undef, undef, undef, undef, undef, undef, undef, undef, undef, undef, undef, undef, undef, undef, undef, undef, undef, undef, undef, undef, undef, undef, undef, undef, undef, undef, undef, undef, undef, undef, undef, undef, undef, undef, undef, undef, undef, undef, undef, undef, undef, undef, undef, undef, undef, undef, undef, undef, undef, undef, undef, undef, undef, undef, undef, undef, undef, undef, undef, undef, undef, undef, undef, undef, undef, undef, undef, undef, undef, undef, undef, undef, undef, undef, undef, undef, undef, undef, undef, undef, undef, undef, undef, undef, undef, undef, undef, undef, undef], defers := [{ target := .collected D, args := #[] }] } X := by
    intro D X cv hD hS hC hcv hDD
    refine hKr _ _ ?_
    clear hKr
    have cC := hC.cell
    have cK := hS.k.cell
    have cS := hS.stop.cell
    gi_wp2
    rename_i Kr2 hKr2 Kc hKc
    have key2 : ∀ (X2 : World) (z41 z42 z43 z44 z45 z46 z47 z48 z49 : Value), V.heap.size ≤ X2.heap.size → D < X2.heap.size → Sta w w1.heap.size cut stop K t u k X2 → X2.heap[D]? = some (.deferred (some [])) → Kr2 { tmps := #[.int .i64 x, .int .i64 cut, .int .i64 stop, .int .i64 i, .agg #[.int .u64 K, .int .i64 t, .int .i64 u], undef, .pointer (some ⟨w.heap.size, 0, none⟩), .pointer (some ⟨w.heap.size + 1, 0, none⟩), undef, .pointer (some ⟨w.heap.size + 1 + 1, 0, none⟩), .pointer (some ⟨w.heap.size + 1 + 1 + 1, 0, none⟩), .pointer (some ⟨w1.heap.size, 0, none⟩), .pointer (some ⟨w1.heap.size + 1, 0, none⟩), .pointer (some ⟨w1.heap.size + 1 + 1, 0, none⟩), undef, undef, undef, undef, .bool true, .bool false, .int .i64 x, .int .i64 M, .int .i64 k, .int .i64 x, .func (.func 43) #[] #[.pointer (some ⟨w1.heap.size + 1 + 1 + 1, 0, none⟩)], undef, undef, undef, undef, undef, undef, undef, undef, undef, undef, undef, undef, undef, undef, undef, undef, z41, z42, z43, z44, z45, z46, z47, z48, z49, undef, undef, undef, undef, undef, undef, undef, undef, undef, undef, undef, undef, undef, undef, undef, undef, undef, undef, undef, undef, undef, undef, undef, undef, undef, undef, undef, undef, undef, undef, undef, undef, undef, undef, undef, undef, undef, undef, undef, undef, undef, undef, undef, undef, undef, undef, undef, undef, undef, undef, undef, undef, undef, undef, undef, undef, undef, undef, undef, undef, undef, undef, undef, undef, undef, undef], defers := [{ target := .collected D, args := #[] }] } X2 := by
      intro X2 z41 z42 z43 z44 z45 z46 z47 z48 z49 hX2 hD2 hS2 hDD2
      refine hKr2 _ _ ?_
      clear hKr2 hKc
      have c6 := (hS2.alloc (.cells #[.int .i64 0] 3)).cut.cell
      have ct := tornFn_any x cut (X2.alloc (.cells #[.int .i64 0] 3))
      gi_wp2_with (refine ⟨trivial, ?_⟩; refine (callsIn_wide.2 ct).mono ?_; rintro e w3 ⟨rfl, rfl⟩)
      clear ct c6
      rename_i Kr3 hKr3
      have s3 := ((hS2.alloc (.cells #[.int .i64 0] 3)).alloc (.cells #[.int .i64 x] 3)).alloc (.cells #[.int .i64 cut] 3)
      have bT := ((Boxed.new X2 3 (.int .i64 0)).alloc (.cells #[.int .i64 x] 3)).alloc (.cells #[.int .i64 cut] 3)
      have bX := (Boxed.new (X2.alloc (.cells #[.int .i64 0] 3)) 3 (.int .i64 x)).alloc (.cells #[.int .i64 cut] 3)
      have bU := Boxed.new ((X2.alloc (.cells #[.int .i64 0] 3)).alloc (.cells #[.int .i64 x] 3)) 3 (.int .i64 cut)
      have dD : (((X2.alloc (.cells #[.int .i64 0] 3)).alloc (.cells #[.int .i64 x] 3)).alloc (.cells #[.int .i64 cut] 3)).heap[D]? = some (.deferred (some [])) := (Below.heap_alloc _ _ _ (by simp; omega)).trans ((Below.heap_alloc _ _ _ (by simp; omega)).trans ((Below.heap_alloc _ _ _ hD2).trans hDD2))
      have hsV2 : (((X2.alloc (.cells #[.int .i64 0] 3)).alloc (.cells #[.int .i64 x] 3)).alloc (.cells #[.int .i64 cut] 3)).heap.size = X2.heap.size + 3 := by simp
      simp only [World.size_alloc] at bX bU
      obtain ⟨V2, hV2⟩ : ∃ V2, V2 = ((X2.alloc (.cells #[.int .i64 0] 3)).alloc (.cells #[.int .i64 x] 3)).alloc (.cells #[.int .i64 cut] 3) := ⟨_, rfl⟩
      rw [← hV2] at s3 bT bX bU dD hsV2 ⊢
      clear hV2 hS2 hDD2
      have ha2 := torn_its x cut (X2.heap.size + 1) (X2.heap.size + 1 + 1) V2 bX bU
      rw [← HKE.out, ← HN.out] at ha2
      have key3 : ∀ (D2 : Nat) (Y : World) (tv : Nat), V2.heap.size ≤ D2 → Sta w w1.heap.size cut stop K t u k Y → Boxed Y X2.heap.size 3 (.int .i64 tv) → (tv ≠ N * k → (tv : Int) = stop) → Y.heap[D]? = some (.deferred (some [])) → Y.heap[D2]? = some (.deferred (some [])) →
          Kr3 { tmps := #[.int .i64 x, .int .i64 cut, .int .i64 stop, .int .i64 i, .agg #[.int .u64 K, .int .i64 t, .int .i64 u], undef, .pointer (some ⟨w.heap.size, 0, none⟩), .pointer (some ⟨w.heap.size + 1, 0, none⟩), undef, .pointer (some ⟨w.heap.size + 1 + 1, 0, none⟩), .pointer (some ⟨w.heap.size + 1 + 1 + 1, 0, none⟩), .pointer (some ⟨w1.heap.size, 0, none⟩), .pointer (some ⟨w1.heap.size + 1, 0, none⟩), .pointer (some ⟨w1.heap.size + 1 + 1, 0, none⟩), undef, .pointer (some ⟨X2.heap.size, 0, none⟩), undef, undef, .bool true, .bool false, .int .i64 x, .int .i64 M, .int .i64 k, .int .i64 x, .func (.func 43) #[] #[.pointer (some ⟨w1.heap.size + 1 + 1 + 1, 0, none⟩)], undef, undef, undef, undef, undef, undef, undef, undef, undef, undef, undef, undef, undef, undef, undef, undef, z41, z42, z43, z44, z45, z46, z47, z48, z49, .int .i64 x, .int .i64 cut, .func (.func 45) #[] #[.pointer (some ⟨X2.heap.size + 1, 0, none⟩), .pointer (some ⟨X2.heap.size + 1 + 1, 0, none⟩)], undef, undef, undef, undef, undef, undef, undef, undef, undef, undef, undef, undef, undef, undef, undef, undef, undef, undef, undef, undef, undef, undef, undef, undef, undef, undef, undef, undef, undef, undef, undef, undef, undef, undef, undef, undef, undef, undef, undef, undef, undef, undef, undef, undef, undef, undef, undef, undef, undef, undef, undef, undef, undef, undef, undef, undef, undef, undef, undef, undef, undef, undef, undef], defers := [{ target := .collected D2, args := #[] }, { target := .collected D, args := #[] }] } Y := by
        intro D2 Y tv hD2 hSY hT htv hDY hD2Y
        refine hKr3 _ _ ?_
        clear hKr3 ha ha2 hN1 s2 bK bC bN s3 bT bX bU
        have p0 : Y.cell? ⟨w.heap.size + 1 + 1, 0, none⟩ = some (.int .u64 K) := by simp [World.cell?, hSY.plan]
        have p1 : Y.cell? ⟨w.heap.size + 1 + 1, 1, none⟩ = some (.int .i64 t) := by simp [World.cell?, hSY.plan]
        have p2 : Y.cell? ⟨w.heap.size + 1 + 1, 2, none⟩ = some (.int .i64 u) := by simp [World.cell?, hSY.plan]
        refine (wpIn_wide (n := 30)).2 ?_
        refine wp_seq (wp_mono (Q := fun e a' w' => e = .normal ∧ Y = w' ∧ ∃ z78 z79 z80 z81 z82 z83 z84 z85 z86 z87 z88 z89 z90 z91 z92 z93 z94 z95 z96 z97 z98 : Value, a' = { tmps := #[.int .i64 x, .int .i64 cut, .int .i64 stop, .int .i64 i, .agg #[.int .u64 K, .int .i64 t, .int .i64 u], undef, .pointer (some ⟨w.heap.size, 0, none⟩), .pointer (some ⟨w.heap.size + 1, 0, none⟩), undef, .pointer (some ⟨w.heap.size + 1 + 1, 0, none⟩), .pointer (some ⟨w.heap.size + 1 + 1 + 1, 0, none⟩), .pointer (some ⟨w1.heap.size, 0, none⟩), .pointer (some ⟨w1.heap.size + 1, 0, none⟩), .pointer (some ⟨w1.heap.size + 1 + 1, 0, none⟩), undef, .pointer (some ⟨X2.heap.size, 0, none⟩), undef, .bool (keepsB K t i), .bool true, .bool false, .int .i64 x, .int .i64 M, .int .i64 k, .int .i64 x, .func (.func 43) #[] #[.pointer (some ⟨w1.heap.size + 1 + 1 + 1, 0, none⟩)], undef, undef, undef, undef, undef, undef, undef, undef, undef, undef, undef, undef, undef, undef, undef, undef, z41, z42, z43, z44, z45, z46, z47, z48, z49, .int .i64 x, .int .i64 cut, .func (.func 45) #[] #[.pointer (some ⟨X2.heap.size + 1, 0, none⟩), .pointer (some ⟨X2.heap.size + 1 + 1, 0, none⟩)], undef, undef, undef, undef, undef, undef, undef, undef, undef, undef, undef, undef, undef, undef, undef, undef, undef, undef, undef, undef, undef, undef, undef, undef, undef, z78, z79, z80, z81, z82, z83, z84, z85, z86, z87, z88, z89, z90, z91, z92, z93, z94, z95, z96, z97, z98, undef, undef, undef, undef, undef, undef, undef, undef, undef, undef, undef, undef, undef, undef, undef, undef, undef], defers := [{ target := .collected D2, args := #[] }, { target := .collected D, args := #[] }] }) ?_ ?_)
        · skip
          by_cases h0 : 0 ≤ i
          · obtain ⟨n, rfl⟩ : ∃ n : Nat, i = n := ⟨i.toNat, by omega⟩
            have hd1 : decide ((0 : Int) ≤ n) = true := decide_eq_true h0
            by_cases h64 : n < 64
            · have hd2 : decide ((n : Int) < 64) = true := decide_eq_true (by omega)
              have hcv : IntKind.u64.wrap (n : Int) = (n : Int) := IntWalk.u64_in _ (by omega)
              have h64i : (n : Int) < 64 := by omega
              by_cases ht : (n : Int) = t
              · have hd3 : ((n : Int) != t) = false := by simpa using ht
                have hkb : keepsB K t n = false := decide_eq_false fun h => h.2.1 ht
                rw [hkb]
                clear hkb ht
                go_wp2
              · have hd3 : ((n : Int) != t) = true := by simpa using ht
                have htb := tbit K n
                by_cases hb : K / 2 ^ n % 2 = 1
                · have hkb : keepsB K t n = true := decide_eq_true ⟨h0, ht, hb⟩
                  rw [decide_eq_true hb] at htb
                  rw [hkb]
                  clear hkb ht hb
                  go_wp2
                · have hkb : keepsB K t n = false := decide_eq_false fun h => hb h.2.2
                  rw [decide_eq_false hb] at htb
                  rw [hkb]
                  clear hkb ht hb
                  go_wp2
            · have hd2 : decide ((n : Int) < 64) = false := decide_eq_false (by omega)
              have hkb : keepsB K t n = false := decide_eq_false fun h => by
                have h1 := h.2.2
                rw [Int.toNat_natCast, high_bit HKK.out h64] at h1
                simp at h1
              rw [hkb]
              clear hkb
              go_wp2
          · have hd1 : decide ((0 : Int) ≤ i) = false := decide_eq_false h0
            have hkb : keepsB K t i = false := decide_eq_false fun h => h0 h.1
            rw [hkb]
            clear hkb h0
            go_wp2
        · rintro e a' w' ⟨rfl, rfl, z78, z79, z80, z81, z82, z83, z84, z85, z86, z87, z88, z89, z90, z91, z92, z93, z94, z95, z96, z97, z98, rfl⟩
          change Code.wp _ _ _ _ _
          refine wp_seq (wp_mono (Q := onlyN fun a' w' => ∃ z, Sta w w1.heap.size cut stop K t u k z ∧ z.heap[D]? = some (.deferred (some [])) ∧ z.heap[D2]? = some (.deferred (some [])) ∧ w' = z.setCell ⟨w.heap.size + 1 + 1 + 1, 0, none⟩ (.bool true) ∧ a'.tmps.getD 10 undef = .pointer (some ⟨w.heap.size + 1 + 1 + 1, 0, none⟩) ∧ a'.defers = [{ target := .collected D2, args := #[] }, { target := .collected D, args := #[] }]) ?_ ?_)
          case refine_2 =>
            intro e a' w' hq
            cases e with
            | normal =>
              obtain ⟨z, h1, h2, h3, rfl, h4, h5⟩ := hq
              change Code.wp _ _ _ _ _
              obtain ⟨tm, df⟩ := a'
              dsimp only at h4 h5
              subst h5
              go_wp2
              have k1 : ∀ (u : World) (E : Nat), w.heap.size + 4 ≤ E → Below w.heap.size w u → u.cell? ⟨w.heap.size + 1 + 1 + 1, 0, none⟩ = some (.bool true) → Below w.heap.size w (u.putObj E (.deferred none)) ∧ (u.putObj E (.deferred none)).cell? ⟨w.heap.size + 1 + 1 + 1, 0, none⟩ = some (.bool true) := fun u E hE hb hc =>
                ⟨hb.grown (grownBy_putObj' u E _) hb.size (fun q e => by injection e with e; omega), by
                  unfold World.cell? at hc ⊢
                  rw [World.putObj_heap_other (by dsimp only; omega)]
                  exact hc⟩
              have hb0 : Below w.heap.size w (z.setCell ⟨w.heap.size + 1 + 1 + 1, 0, none⟩ (.bool true)) := h1.below.setCell (p := ⟨w.heap.size + 1 + 1 + 1, 0, none⟩) (by dsimp only; omega) _
              have hc0 : (z.setCell ⟨w.heap.size + 1 + 1 + 1, 0, none⟩ (.bool true)).cell? ⟨w.heap.size + 1 + 1 + 1, 0, none⟩ = some (.bool true) := (Boxed.set (.bool true) h1.res).cell
              have hDD2 : (z.setCell ⟨w.heap.size + 1 + 1 + 1, 0, none⟩ (.bool true)).heap[D2]? = some (.deferred (some [])) := (Below.heap_setCell _ _ _ D2 (by dsimp only; omega)).trans h3
              have hDD1 : ((z.setCell ⟨w.heap.size + 1 + 1 + 1, 0, none⟩ (.bool true)).putObj D2 (.deferred none)).heap[D]? = some (.deferred (some [])) := (World.putObj_heap_other (by omega)).trans ((Below.heap_setCell _ _ _ D (by dsimp only; omega)).trans h2)
              obtain ⟨hb1, hc1⟩ := k1 _ D2 (by omega) hb0 hc0
              obtain ⟨hb2, hc2⟩ := k1 _ D (by omega) hb1 hc1
              refine ⟨by simp, .inl ⟨_, _, rfl, run_takeDeferred hDD2, ⟨by simp, .inl ⟨_, _, rfl, run_takeDeferred hDD1, ?_⟩⟩⟩⟩
              exact ⟨_, res_cell h4 hc2, rfl, hb2⟩
            | ret => exact hq.elim
            | exit _ => exact hq.elim
            | goto _ => exact hq.elim
            | panic _ => exact hq.elim
            | outgrown => exact hq.elim
          have hG4 : ∀ W, Below Y.drew.heap.size Y.drew W → Sta w w1.heap.size cut stop K t u k W ∧ Boxed W X2.heap.size 3 (.int .i64 tv) ∧ W.heap[D]? = some (.deferred (some [])) ∧ W.heap[D2]? = some (.deferred (some [])) := fun W hb => by
            have hg : Y.drew.grownBy W none := ⟨hb.os, hb.tape, hb.output, hb.size, fun j hj _ => hb.block j hj⟩
            have h0 : Sta w w1.heap.size cut stop K t u k Y.drew := ⟨hSY.cut, hSY.stop, hSY.plan, hSY.res, hSY.k, hSY.below.drew⟩
            exact ⟨h0.kept hg (fun r e => by cases e), (hb.block _ hT.lt).trans hT, (hb.block _ (Array.getElem?_eq_some_iff.1 hDY).1).trans hDY, (hb.block _ (Array.getElem?_eq_some_iff.1 hD2Y).1).trans hD2Y⟩
          have hPS : ∀ W, Sta w w1.heap.size cut stop K t u k W → Boxed W X2.heap.size 3 (.int .i64 tv) → (fun W => W.cell? ⟨X2.heap.size, 0, none⟩ = some (.int .i64 tv) ∧ W.cell? ⟨w1.heap.size, 0, none⟩ = some (.int .i64 k) ∧ W.cell? ⟨w.heap.size + 1, 0, none⟩ = some (.int .i64 stop) ∧ W.cell? ⟨w.heap.size + 1 + 1, 0, none⟩ = some (.int .u64 K) ∧ W.cell? ⟨w.heap.size + 1 + 1, 1, none⟩ = some (.int .i64 t) ∧ W.cell? ⟨w.heap.size + 1 + 1, 2, none⟩ = some (.int .i64 u)) W := fun W h1 h2 =>
            ⟨h2.cell, h1.k.cell, h1.stop.cell, by simp [World.cell?, h1.plan], by simp [World.cell?, h1.plan], by simp [World.cell?, h1.plan]⟩
          have hPR : ∀ W, Sta w w1.heap.size cut stop K t u k W → Boxed W X2.heap.size 3 (.int .i64 tv) → (fun W => W.cell? ⟨X2.heap.size, 0, none⟩ = some (.int .i64 tv) ∧ W.cell? ⟨w1.heap.size, 0, none⟩ = some (.int .i64 k) ∧ W.cell? ⟨w.heap.size + 1, 0, none⟩ = some (.int .i64 stop) ∧ W.cell? ⟨w.heap.size + 1 + 1, 0, none⟩ = some (.int .u64 K) ∧ W.cell? ⟨w.heap.size + 1 + 1, 1, none⟩ = some (.int .i64 t) ∧ W.cell? ⟨w.heap.size + 1 + 1, 2, none⟩ = some (.int .i64 u)) (W.setCell ⟨w.heap.size + 1 + 1 + 1, 0, none⟩ (.bool true)) := fun W h1 h2 => by
            have hp : (W.setCell ⟨w.heap.size + 1 + 1 + 1, 0, none⟩ (.bool true)).heap[w.heap.size + 1 + 1]? = some (.cells #[.int .u64 K, .int .i64 t, .int .i64 u] 27 (0, 0)) := (Below.heap_setCell W ⟨w.heap.size + 1 + 1 + 1, 0, none⟩ _ (w.heap.size + 1 + 1) (by dsimp only; omega)).trans h1.plan
            exact ⟨(h2.other (by omega) _).cell, (h1.k.other (by omega) _).cell, (h1.stop.other (by omega) _).cell, by simp [World.cell?, hp], by simp [World.cell?, hp], by simp [World.cell?, hp]⟩
          dsimp only at hPS hPR
          have HP0 := Lib.hid (hPS Y.drew ⟨hSY.cut, hSY.stop, hSY.plan, hSY.res, hSY.k, hSY.below.drew⟩ hT)
          have ck := keeps_any K t u i HKK.out Y.drew
          obtain ⟨NK, hNK⟩ : ∃ NK, NK = N * k := ⟨_, rfl⟩
          rw [← hNK] at htv
          have hwk : IntKind.i64.wrap ((k : Int) * 2 ^ k) = (NK : Int) := by
            have h1 : ((k : Int) * 2 ^ k) = (NK : Int) := by rw [hNK, HN.out]; simp [Int.mul_comm]
            have h2 : N * k ≤ 1024 * 10 := Nat.mul_le_mul (by rw [HN.out]; exact Nat.le_trans (Nat.pow_le_pow_right (by omega) HK10.out) (by decide)) HK10.out
            rw [h1]
            exact IntWalk.i64_in _ (by omega)
          have hk64 : (k : Int) < 64 := by have := HK10.out; omega
          have hk64n : k < 64 := by have := HK10.out; omega
          clear hNK hSY hT p0 p1 p2
          generalize keepsB K t i = kb at *
          by_cases hcn : tv = NK
          · have hd1 : ((tv : Int) == (NK : Int)) = true := by rw [hcn]; simp
            clear htv hcn
            go_wp2
            refine wp_region_held_drew (S := (fun W => W.cell? ⟨X2.heap.size, 0, none⟩ = some (.int .i64 tv) ∧ W.cell? ⟨w1.heap.size, 0, none⟩ = some (.int .i64 k) ∧ W.cell? ⟨w.heap.size + 1, 0, none⟩ = some (.int .i64 stop) ∧ W.cell? ⟨w.heap.size + 1 + 1, 0, none⟩ = some (.int .u64 K) ∧ W.cell? ⟨w.heap.size + 1 + 1, 1, none⟩ = some (.int .i64 t) ∧ W.cell? ⟨w.heap.size + 1 + 1, 2, none⟩ = some (.int .i64 u))) (by kernel_rfl) HP0.out (fun hHeld => ?_)
            refine wpAnyH_take (i := 0) (v := ?_) (List.getElem?_toArray.trans rfl) (by kernel_rfl) (by kernel_rfl) (by kernel_rfl) (fun _ _ _ h => h) (Or.inl ⟨by rfl, ?_⟩) (by assumption) ?_
            case refine_2 => (intro w hSw; (try dsimp only at hSw); go_simp <;> with_reducible rfl)
            simp only [Act.put, List.setIfInBounds_toArray, List.set_cons_zero, List.set_cons_succ]
            refine wpAnyH_take (i := 1) (v := ?_) (List.getElem?_toArray.trans rfl) (by kernel_rfl) (by kernel_rfl) (by kernel_rfl) (fun _ _ _ h => h) (Or.inl ⟨by rfl, ?_⟩) (by assumption) ?_
            case refine_2 => (intro w hSw; (try dsimp only at hSw); go_simp <;> with_reducible rfl)
            simp only [Act.put, List.setIfInBounds_toArray, List.set_cons_zero, List.set_cons_succ]
            refine wpAnyH_take (i := 2) (v := ?_) (List.getElem?_toArray.trans rfl) (by kernel_rfl) (by kernel_rfl) (by kernel_rfl) (fun _ _ _ h => h) (Or.inl ⟨by rfl, ?_⟩) (by assumption) ?_
            case refine_2 => (intro w hSw; (try dsimp only at hSw); go_simp <;> with_reducible rfl)
            simp only [Act.put, List.setIfInBounds_toArray, List.set_cons_zero, List.set_cons_succ]
            refine wpAnyH_take (i := 3) (v := ?_) (List.getElem?_toArray.trans rfl) (by kernel_rfl) (by kernel_rfl) (by kernel_rfl) (fun _ _ _ h => h) (Or.inl ⟨by rfl, ?_⟩) (by assumption) ?_
            case refine_2 => (intro w hSw; (try dsimp only at hSw); go_simp <;> with_reducible rfl)
            simp only [Act.put, List.setIfInBounds_toArray, List.set_cons_zero, List.set_cons_succ]
            refine wpAnyH_take (i := 4) (v := ?_) (List.getElem?_toArray.trans rfl) (by kernel_rfl) (by kernel_rfl) (by kernel_rfl) (fun _ _ _ h => h) (Or.inl ⟨by rfl, ?_⟩) (by assumption) ?_
            case refine_2 => (intro w hSw; (try dsimp only at hSw); go_simp <;> with_reducible rfl)
            simp only [Act.put, List.setIfInBounds_toArray, List.set_cons_zero, List.set_cons_succ]
            refine wpAnyH_take (i := 5) (v := ?_) (List.getElem?_toArray.trans rfl) (by kernel_rfl) (by kernel_rfl) (by kernel_rfl) (fun _ _ _ h => h) (Or.inl ⟨by rfl, ?_⟩) (by assumption) ?_
            case refine_2 => (intro w hSw; (try dsimp only at hSw); go_simp <;> with_reducible rfl)
            simp only [Act.put, List.setIfInBounds_toArray, List.set_cons_zero, List.set_cons_succ]
            refine wpAnyH_take (i := 6) (v := undef) (List.getElem?_toArray.trans rfl) (by kernel_rfl) (by kernel_rfl) (by kernel_rfl) (fun _ _ _ h => h) (Or.inr ⟨by rfl, rfl⟩) (by assumption) ?_
            simp only [Act.put, List.setIfInBounds_toArray, List.set_cons_zero, List.set_cons_succ]
            refine wpAnyH_take (i := 7) (v := undef) (List.getElem?_toArray.trans rfl) (by kernel_rfl) (by kernel_rfl) (by kernel_rfl) (fun _ _ _ h => h) (Or.inr ⟨by rfl, rfl⟩) (by assumption) ?_
            simp only [Act.put, List.setIfInBounds_toArray, List.set_cons_zero, List.set_cons_succ]
            refine wpAnyH_take (i := 8) (v := undef) (List.getElem?_toArray.trans rfl) (by kernel_rfl) (by kernel_rfl) (by kernel_rfl) (fun _ _ _ h => h) (Or.inr ⟨by rfl, rfl⟩) (by assumption) ?_
            simp only [Act.put, List.setIfInBounds_toArray, List.set_cons_zero, List.set_cons_succ]
            refine wpAnyH_take (i := 9) (v := ?_) (List.getElem?_toArray.trans rfl) (by kernel_rfl) (by kernel_rfl) (by kernel_rfl) (fun _ _ _ h => h) (Or.inl ⟨by rfl, ?_⟩) (by assumption) ?_
            case refine_2 => (intro w hSw; (try dsimp only at hSw); go_simp <;> with_reducible rfl)
            simp only [Act.put, List.setIfInBounds_toArray, List.set_cons_zero, List.set_cons_succ]
            refine wpAnyH_take (i := 10) (v := ?_) (List.getElem?_toArray.trans rfl) (by kernel_rfl) (by kernel_rfl) (by kernel_rfl) (fun _ _ _ h => h) (Or.inl ⟨by rfl, ?_⟩) (by assumption) ?_
            case refine_2 => (intro w hSw; (try dsimp only at hSw); go_simp <;> with_reducible rfl)
            simp only [Act.put, List.setIfInBounds_toArray, List.set_cons_zero, List.set_cons_succ]
            refine wpAnyH_take (i := 11) (v := ?_) (List.getElem?_toArray.trans rfl) (by kernel_rfl) (by kernel_rfl) (by kernel_rfl) (fun _ _ _ h => h) (Or.inl ⟨by rfl, ?_⟩) (by assumption) ?_
            case refine_2 => (intro w hSw; (try dsimp only at hSw); go_simp <;> with_reducible rfl)
            simp only [Act.put, List.setIfInBounds_toArray, List.set_cons_zero, List.set_cons_succ]
            refine wpAnyH_take (i := 12) (v := ?_) (List.getElem?_toArray.trans rfl) (by kernel_rfl) (by kernel_rfl) (by kernel_rfl) (fun _ _ _ h => h) (Or.inl ⟨by rfl, ?_⟩) (by assumption) ?_
            case refine_2 => (intro w hSw; (try dsimp only at hSw); go_simp <;> with_reducible rfl)
            simp only [Act.put, List.setIfInBounds_toArray, List.set_cons_zero, List.set_cons_succ]
            refine wpAnyH_take (i := 14) (v := ?_) (List.getElem?_toArray.trans rfl) (by kernel_rfl) (by kernel_rfl) (by kernel_rfl) (fun _ _ _ h => h) (Or.inl ⟨by rfl, ?_⟩) (by assumption) ?_
            case refine_2 => (intro w hSw; (try dsimp only at hSw); go_simp <;> with_reducible rfl)
            simp only [Act.put, List.setIfInBounds_toArray, List.set_cons_zero, List.set_cons_succ]
            refine wpAnyH_ready (rs := [13]) (by kernel_rfl) (by simp) ?_
            refine AllReadyH.cons (List.getElem?_toArray.trans rfl) (fun K hK => ?_) AllReadyH.nil
            go_simp
            go_at_call 23; (with_reducible refine ck.mono ?_); rintro e w4 ⟨rfl, hb4⟩; have HS4 := Lib.hid (hG4 _ hb4); have hP := hPS _ HS4.out.1 HS4.out.2.1; have c10 := HS4.out.1.res.cell; have f10 := HS4.out.1.res.frozen; clear ck
            refine hK.out _ _ hP (fun hHeld => ?_)
            clear hK K
            refine wpAnyH_take (i := 15) (v := ?_) (List.getElem?_toArray.trans rfl) (by kernel_rfl) (by kernel_rfl) (by kernel_rfl) (fun _ _ _ h => h) (Or.inl ⟨by rfl, ?_⟩) (by assumption) ?_
            case refine_2 => (intro w hSw; (try dsimp only at hSw); go_simp <;> with_reducible rfl)
            simp only [Act.put, List.setIfInBounds_toArray, List.set_cons_zero, List.set_cons_succ]
            refine wpAnyH_take (i := 16) (v := ?_) (List.getElem?_toArray.trans rfl) (by kernel_rfl) (by kernel_rfl) (by kernel_rfl) (fun _ _ _ h => h) (Or.inl ⟨by rfl, ?_⟩) (by assumption) ?_
            case refine_2 => (intro w hSw; (try dsimp only at hSw); go_simp <;> with_reducible rfl)
            simp only [Act.put, List.setIfInBounds_toArray, List.set_cons_zero, List.set_cons_succ]
            refine wpAnyH_ready (rs := [17]) (by kernel_rfl) (by simp) ?_
            refine AllReadyH.cons (List.getElem?_toArray.trans rfl) (fun K hK => ?_) AllReadyH.nil
            go_simp
            have hP := hPR _ HS4.out.1 HS4.out.2.1
            refine hK.out _ _ hP (fun hHeld => ?_)
            clear hK K
            refine wpAnyH_done (by kernel_rfl) ?_ _
            exact ⟨w4, HS4.out.1, HS4.out.2.2.1, HS4.out.2.2.2, rfl, rfl, rfl⟩
          · have hd1 : ((tv : Int) == (NK : Int)) = false := by
              rw [beq_eq_false_iff_ne]
              intro e
              exact hcn (by omega)
            have hd2 : ((tv : Int) == stop) = true := by rw [htv hcn]; simp
            clear htv hcn
            go_wp2
            refine wp_region_held_drew (S := (fun W => W.cell? ⟨X2.heap.size, 0, none⟩ = some (.int .i64 tv) ∧ W.cell? ⟨w1.heap.size, 0, none⟩ = some (.int .i64 k) ∧ W.cell? ⟨w.heap.size + 1, 0, none⟩ = some (.int .i64 stop) ∧ W.cell? ⟨w.heap.size + 1 + 1, 0, none⟩ = some (.int .u64 K) ∧ W.cell? ⟨w.heap.size + 1 + 1, 1, none⟩ = some (.int .i64 t) ∧ W.cell? ⟨w.heap.size + 1 + 1, 2, none⟩ = some (.int .i64 u))) (by kernel_rfl) HP0.out (fun hHeld => ?_)
            refine wpAnyH_take (i := 0) (v := ?_) (List.getElem?_toArray.trans rfl) (by kernel_rfl) (by kernel_rfl) (by kernel_rfl) (fun _ _ _ h => h) (Or.inl ⟨by rfl, ?_⟩) (by assumption) ?_
            case refine_2 => (intro w hSw; (try dsimp only at hSw); go_simp <;> with_reducible rfl)
            simp only [Act.put, List.setIfInBounds_toArray, List.set_cons_zero, List.set_cons_succ]
            refine wpAnyH_take (i := 1) (v := ?_) (List.getElem?_toArray.trans rfl) (by kernel_rfl) (by kernel_rfl) (by kernel_rfl) (fun _ _ _ h => h) (Or.inl ⟨by rfl, ?_⟩) (by assumption) ?_
            case refine_2 => (intro w hSw; (try dsimp only at hSw); go_simp <;> with_reducible rfl)
            simp only [Act.put, List.setIfInBounds_toArray, List.set_cons_zero, List.set_cons_succ]
            refine wpAnyH_take (i := 2) (v := ?_) (List.getElem?_toArray.trans rfl) (by kernel_rfl) (by kernel_rfl) (by kernel_rfl) (fun _ _ _ h => h) (Or.inl ⟨by rfl, ?_⟩) (by assumption) ?_
            case refine_2 => (intro w hSw; (try dsimp only at hSw); go_simp <;> with_reducible rfl)
            simp only [Act.put, List.setIfInBounds_toArray, List.set_cons_zero, List.set_cons_succ]
            refine wpAnyH_take (i := 3) (v := ?_) (List.getElem?_toArray.trans rfl) (by kernel_rfl) (by kernel_rfl) (by kernel_rfl) (fun _ _ _ h => h) (Or.inl ⟨by rfl, ?_⟩) (by assumption) ?_
            case refine_2 => (intro w hSw; (try dsimp only at hSw); go_simp <;> with_reducible rfl)
            simp only [Act.put, List.setIfInBounds_toArray, List.set_cons_zero, List.set_cons_succ]
            refine wpAnyH_take (i := 4) (v := ?_) (List.getElem?_toArray.trans rfl) (by kernel_rfl) (by kernel_rfl) (by kernel_rfl) (fun _ _ _ h => h) (Or.inl ⟨by rfl, ?_⟩) (by assumption) ?_
            case refine_2 => (intro w hSw; (try dsimp only at hSw); go_simp <;> with_reducible rfl)
            simp only [Act.put, List.setIfInBounds_toArray, List.set_cons_zero, List.set_cons_succ]
            refine wpAnyH_take (i := 5) (v := ?_) (List.getElem?_toArray.trans rfl) (by kernel_rfl) (by kernel_rfl) (by kernel_rfl) (fun _ _ _ h => h) (Or.inl ⟨by rfl, ?_⟩) (by assumption) ?_
            case refine_2 => (intro w hSw; (try dsimp only at hSw); go_simp <;> with_reducible rfl)
            simp only [Act.put, List.setIfInBounds_toArray, List.set_cons_zero, List.set_cons_succ]
            refine wpAnyH_take (i := 6) (v := ?_) (List.getElem?_toArray.trans rfl) (by kernel_rfl) (by kernel_rfl) (by kernel_rfl) (fun _ _ _ h => h) (Or.inl ⟨by rfl, ?_⟩) (by assumption) ?_
            case refine_2 => (intro w hSw; (try dsimp only at hSw); go_simp <;> with_reducible rfl)
            simp only [Act.put, List.setIfInBounds_toArray, List.set_cons_zero, List.set_cons_succ]
            refine wpAnyH_take (i := 7) (v := ?_) (List.getElem?_toArray.trans rfl) (by kernel_rfl) (by kernel_rfl) (by kernel_rfl) (fun _ _ _ h => h) (Or.inl ⟨by rfl, ?_⟩) (by assumption) ?_
            case refine_2 => (intro w hSw; (try dsimp only at hSw); go_simp <;> with_reducible rfl)
            simp only [Act.put, List.setIfInBounds_toArray, List.set_cons_zero, List.set_cons_succ]
            refine wpAnyH_take (i := 8) (v := ?_) (List.getElem?_toArray.trans rfl) (by kernel_rfl) (by kernel_rfl) (by kernel_rfl) (fun _ _ _ h => h) (Or.inl ⟨by rfl, ?_⟩) (by assumption) ?_
            case refine_2 => (intro w hSw; (try dsimp only at hSw); go_simp <;> with_reducible rfl)
            simp only [Act.put, List.setIfInBounds_toArray, List.set_cons_zero, List.set_cons_succ]
            refine wpAnyH_take (i := 9) (v := ?_) (List.getElem?_toArray.trans rfl) (by kernel_rfl) (by kernel_rfl) (by kernel_rfl) (fun _ _ _ h => h) (Or.inl ⟨by rfl, ?_⟩) (by assumption) ?_
            case refine_2 => (intro w hSw; (try dsimp only at hSw); go_simp <;> with_reducible rfl)
            simp only [Act.put, List.setIfInBounds_toArray, List.set_cons_zero, List.set_cons_succ]
            refine wpAnyH_take (i := 10) (v := ?_) (List.getElem?_toArray.trans rfl) (by kernel_rfl) (by kernel_rfl) (by kernel_rfl) (fun _ _ _ h => h) (Or.inl ⟨by rfl, ?_⟩) (by assumption) ?_
            case refine_2 => (intro w hSw; (try dsimp only at hSw); go_simp <;> with_reducible rfl)
            simp only [Act.put, List.setIfInBounds_toArray, List.set_cons_zero, List.set_cons_succ]
            refine wpAnyH_take (i := 11) (v := ?_) (List.getElem?_toArray.trans rfl) (by kernel_rfl) (by kernel_rfl) (by kernel_rfl) (fun _ _ _ h => h) (Or.inl ⟨by rfl, ?_⟩) (by assumption) ?_
            case refine_2 => (intro w hSw; (try dsimp only at hSw); go_simp <;> with_reducible rfl)
            simp only [Act.put, List.setIfInBounds_toArray, List.set_cons_zero, List.set_cons_succ]
            refine wpAnyH_take (i := 12) (v := ?_) (List.getElem?_toArray.trans rfl) (by kernel_rfl) (by kernel_rfl) (by kernel_rfl) (fun _ _ _ h => h) (Or.inl ⟨by rfl, ?_⟩) (by assumption) ?_
            case refine_2 => (intro w hSw; (try dsimp only at hSw); go_simp <;> with_reducible rfl)
            simp only [Act.put, List.setIfInBounds_toArray, List.set_cons_zero, List.set_cons_succ]
            refine wpAnyH_take (i := 14) (v := ?_) (List.getElem?_toArray.trans rfl) (by kernel_rfl) (by kernel_rfl) (by kernel_rfl) (fun _ _ _ h => h) (Or.inl ⟨by rfl, ?_⟩) (by assumption) ?_
            case refine_2 => (intro w hSw; (try dsimp only at hSw); go_simp <;> with_reducible rfl)
            simp only [Act.put, List.setIfInBounds_toArray, List.set_cons_zero, List.set_cons_succ]
            refine wpAnyH_ready (rs := [13]) (by kernel_rfl) (by simp) ?_
            refine AllReadyH.cons (List.getElem?_toArray.trans rfl) (fun K hK => ?_) AllReadyH.nil
            go_simp
            go_at_call 23; (with_reducible refine ck.mono ?_); rintro e w4 ⟨rfl, hb4⟩; have HS4 := Lib.hid (hG4 _ hb4); have hP := hPS _ HS4.out.1 HS4.out.2.1; have c10 := HS4.out.1.res.cell; have f10 := HS4.out.1.res.frozen; clear ck
            refine hK.out _ _ hP (fun hHeld => ?_)
            clear hK K
            refine wpAnyH_take (i := 15) (v := ?_) (List.getElem?_toArray.trans rfl) (by kernel_rfl) (by kernel_rfl) (by kernel_rfl) (fun _ _ _ h => h) (Or.inl ⟨by rfl, ?_⟩) (by assumption) ?_
            case refine_2 => (intro w hSw; (try dsimp only at hSw); go_simp <;> with_reducible rfl)
            simp only [Act.put, List.setIfInBounds_toArray, List.set_cons_zero, List.set_cons_succ]
            refine wpAnyH_take (i := 16) (v := ?_) (List.getElem?_toArray.trans rfl) (by kernel_rfl) (by kernel_rfl) (by kernel_rfl) (fun _ _ _ h => h) (Or.inl ⟨by rfl, ?_⟩) (by assumption) ?_
            case refine_2 => (intro w hSw; (try dsimp only at hSw); go_simp <;> with_reducible rfl)
            simp only [Act.put, List.setIfInBounds_toArray, List.set_cons_zero, List.set_cons_succ]
            refine wpAnyH_ready (rs := [17]) (by kernel_rfl) (by simp) ?_
            refine AllReadyH.cons (List.getElem?_toArray.trans rfl) (fun K hK => ?_) AllReadyH.nil
            go_simp
            have hP := hPR _ HS4.out.1 HS4.out.2.1
            refine hK.out _ _ hP (fun hHeld => ?_)
            clear hK K
            refine wpAnyH_done (by kernel_rfl) ?_ _
            exact ⟨w4, HS4.out.1, HS4.out.2.2.1, HS4.out.2.2.2, rfl, rfl, rfl⟩
      clear hKr3
      refine wpIn_its (n := 30) (p := fun i => i = X2.heap.size + 1 ∨ i = X2.heap.size + 1 + 1) (lb := #[.pointer (some ⟨X2.heap.size + 1, 0, none⟩), .pointer (some ⟨X2.heap.size + 1 + 1, 0, none⟩)]) (gf := 45) rfl (enters_of Try.func45 (by kernel_rfl) rfl) ha2 (Below.refl _ _) (fun j h => by omega) (fun _ => rfl)
        (fun m Y => (Sta w w1.heap.size cut stop K t u k Y ∧ Y.heap[D]? = some (.deferred (some []))) ∧ (Boxed Y X2.heap.size 3 (.int .i64 m) ∧ ∀ c : Nat, c < m → (c : Int) ≠ stop))
        (fun c m Y => c = .exit 2 ∧ ((Sta w w1.heap.size cut stop K t u k Y ∧ Y.heap[D]? = some (.deferred (some []))) ∧ Boxed Y X2.heap.size 3 (.int .i64 m)) ∧ (m : Int) = stop)
        (OwnFrom.and (OwnFrom.and (Sta.own (by omega)) (ownFrom_obj (fun _ => .deferred (some [])) (by omega))) (OwnFrom.and (Own.from (boxed_own _ _ (fun m : Nat => Value.int .i64 m)) _) (ownFrom_pure _ _)))
        (fun c => OwnFrom.and (ownFrom_pure _ _) (OwnFrom.and (OwnFrom.and (OwnFrom.and (Sta.own (by omega)) (ownFrom_obj (fun _ => .deferred (some [])) (by omega))) (Own.from (boxed_own _ _ (fun m : Nat => Value.int .i64 m)) _)) (ownFrom_pure _ _)))
        ⟨⟨s3, dD⟩, bT, fun c h => absurd h (by omega)⟩
        (fun m a' Y => ∃ Bx, V2.heap.size ≤ Bx ∧ Y.heap[Bx]? = some (.cells #[.int .u64 ((m / k : Nat) : Int), .int .i64 ((m % k : Nat) : Int), .int .i64 cut] 27 (0, 0)) ∧ a' = { tmps := #[.int .i64 x, .int .i64 cut, .int .i64 stop, .int .i64 i, .agg #[.int .u64 K, .int .i64 t, .int .i64 u], undef, .pointer (some ⟨w.heap.size, 0, none⟩), .pointer (some ⟨w.heap.size + 1, 0, none⟩), undef, .pointer (some ⟨w.heap.size + 1 + 1, 0, none⟩), .pointer (some ⟨w.heap.size + 1 + 1 + 1, 0, none⟩), .pointer (some ⟨w1.heap.size, 0, none⟩), .pointer (some ⟨w1.heap.size + 1, 0, none⟩), .pointer (some ⟨w1.heap.size + 1 + 1, 0, none⟩), undef, .pointer (some ⟨X2.heap.size, 0, none⟩), .pointer (some ⟨Bx, 0, none⟩), undef, .bool true, .bool false, .int .i64 x, .int .i64 M, .int .i64 k, .int .i64 x, .func (.func 43) #[] #[.pointer (some ⟨w1.heap.size + 1 + 1 + 1, 0, none⟩)], undef, undef, undef, undef, undef, undef, undef, undef, undef, undef, undef, undef, undef, undef, undef, undef, z41, z42, z43, z44, z45, z46, z47, z48, z49, .int .i64 x, .int .i64 cut, .func (.func 45) #[] #[.pointer (some ⟨X2.heap.size + 1, 0, none⟩), .pointer (some ⟨X2.heap.size + 1 + 1, 0, none⟩)], .agg #[.int .u64 ((m / k : Nat) : Int), .int .i64 ((m % k : Nat) : Int), .int .i64 cut], undef, undef, undef, undef, undef, undef, undef, undef, undef, undef, undef, undef, undef, undef, undef, undef, undef, undef, undef, undef, undef, undef, undef, undef, undef, undef, undef, undef, undef, undef, undef, undef, undef, undef, undef, undef, undef, undef, undef, undef, undef, undef, undef, undef, undef, undef, undef, undef, undef, undef, undef, undef, undef, undef, undef, undef, undef, undef, undef, undef, undef, undef], defers := [] })
        (fun m a' _ X Y row hs hg hr => by
          obtain ⟨Bx, h1, h2, h3⟩ := hs
          refine ⟨Bx, h1, (hg.block Bx (Array.getElem?_eq_some_iff.1 h2).1 fun e => ?_).trans h2, h3⟩
          obtain ⟨-, o, ho, hc⟩ := hr Bx e.symm
          rw [h2] at ho
          cases ho
          cases hc)
        ?assign ?body ?done ?stop
      case assign =>
        rintro l2 m Y K2 hm hY ⟨⟨hS, hDY⟩, b1, hne⟩ hK2
        gi_wp2
        exact hK2 _ _ (Stay.alloc _ _ _) ⟨⟨hS.alloc _, (Below.heap_alloc _ _ _ (Array.getElem?_eq_some_iff.1 hDY).1).trans hDY⟩, b1.alloc _, hne⟩ ⟨Y.heap.size, hY, World.alloc_heap_new Y _, rfl⟩
      case body =>
        rintro l2 m a' Y hm hY ⟨⟨hS, hDY⟩, b1, hne⟩ ⟨Bx, hBx, bx, rfl⟩
        have c1 := b1.cell
        have f1 := b1.frozen
        have c3 := hS.stop.cell
        have c4 := hS.k.cell
        have c5 := hS.cut.cell
        have x0 : Y.cell? ⟨Bx, 0, none⟩ = some (.int .u64 ((m / k : Nat) : Int)) := by simp [World.cell?, bx]
        have x1 : Y.cell? ⟨Bx, 1, none⟩ = some (.int .i64 ((m % k : Nat) : Int)) := by simp [World.cell?, bx]
        have x2 : Y.cell? ⟨Bx, 2, none⟩ = some (.int .i64 cut) := by simp [World.cell?, bx]
        have hNk : N * k ≤ 1024 * 10 := Nat.mul_le_mul hN1 HK10.out
        by_cases hms : (m : Int) = stop
        · have he : ((m : Int) == stop) = true := by simpa using hms
          gi_wp2
          exact ⟨Stay.refl _ _, rfl, ⟨⟨hS, hDY⟩, b1⟩, hms⟩
        · have he : ((m : Int) == stop) = false := by simpa using hms
          have hk0 : k ≠ 0 := fun e => by rw [e] at hm; simp at hm
          have hk1 : ((k : Int) == 0) = false := by simpa using hk0
          have hd1 : decide ((10240 : Int) < (m : Int)) = false := decide_eq_false (by omega)
          have hq : (m : Int).tdiv (k : Int) = ((m / k : Nat) : Int) := by rw [Int.tdiv_eq_ediv_of_nonneg (by omega)]; simp
          have hr : (m : Int).tmod (k : Int) = ((m % k : Nat) : Int) := by rw [Int.tmod_eq_emod_of_nonneg (by omega)]; simp
          have hqb : m / k ≤ 10240 := Nat.le_trans (Nat.div_le_self _ _) (by omega)
          have hrb : m % k ≤ 10240 := Nat.le_trans (Nat.mod_le _ _) (by omega)
          clear bx
          generalize m / k = qa at *
          generalize m % k = ra at *
          have hu : IntKind.u64.wrap (qa : Int) = (qa : Int) := IntWalk.u64_in _ (by omega)
          have hi1 : IntKind.i64.wrap (qa : Int) = (qa : Int) := IntWalk.i64_in _ (by omega)
          have hi2 : IntKind.i64.wrap (ra : Int) = (ra : Int) := IntWalk.i64_in _ (by omega)
          gi_wp2
          refine region_round (by kernel_rfl) (by kernel_rfl) (by simp) ?_
          repeat (gi_big_quiet_step (fail))
          refine wpQuietIn_nil ?_
          intro _ hw'
          obtain ⟨nq, rfl⟩ := hw'
          gi_wp2
          have g1 : ¬ (fun i => (i = X2.heap.size + 1 ∨ i = X2.heap.size + 1 + 1) ∨ V2.heap.size ≤ i) X2.heap.size := by dsimp only; omega
          have hE : stayPost (fun i => (i = X2.heap.size + 1 ∨ i = X2.heap.size + 1 + 1) ∨ V2.heap.size ≤ i) (fun m Y => (Sta w w1.heap.size cut stop K t u k Y ∧ Y.heap[D]? = some (.deferred (some []))) ∧ (Boxed Y X2.heap.size 3 (.int .i64 m) ∧ ∀ c : Nat, c < m → (c : Int) ≠ stop)) (fun _ _ _ => False) m Y .normal { tmps := #[], defers := [] } ((Y.drewN nq).setCell ⟨X2.heap.size, 0, none⟩ (.int .i64 ((m + 1 : Nat) : Int))) :=
            ⟨((Stay.refl _ Y).drewN nq).trans (Stay.setCell _ _ g1), ⟨(hS.drewN nq).setCell _ _ (by omega) (by omega), (Below.heap_setCell (Y.drewN nq) ⟨X2.heap.size, 0, none⟩ _ D (by dsimp only; omega)).trans hDY⟩, Boxed.set _ (Boxed.drewN b1 nq), fun c hc => by
              rcases Nat.lt_or_ge c m with h | h
              · exact hne c h
              · have : c = m := by omega
                rw [this]; exact hms⟩
          exact hE
      case done =>
        rintro D2 Y hD3 ⟨⟨hS, hDY⟩, b1, hne⟩ hDD3
        exact key3 D2 Y (N * k) hD3 hS b1 (fun h => absurd rfl h) hDY hDD3
      case stop =>
        rintro D2 c m Y hD3 hm ⟨rfl, ⟨⟨hS, hDY⟩, b1⟩, hms⟩ hDD3
        gi_wp2
        exact key3 D2 Y m hD3 hS b1 (fun _ => hms) hDY hDD3
    clear hKr2
    have hN9 : IntKind.i64.wrap ((2 : Int) ^ k) = (N : Int) := by
      rw [show ((2 : Int) ^ k) = (N : Int) by rw [HN.out]; simp]
      exact IntWalk.i64_in _ (by omega)
    have hDl := (Array.getElem?_eq_some_iff.1 hDD).1
    have hXl : V.heap.size ≤ X.heap.size := by omega
    have h9 : k < 64 := by have := HK10.out; omega
    refine (wpIn_wide (n := 30)).2 ?_
    by_cases hcn : cv = N
    · have hd1 : ((cv : Int) != (N : Int)) = false := by rw [hcn]; simp
      clear hcv hcn
      go_quiet (fail)
      refine hKc _ _ ?_
      gi_wp2
      exact key2 _ _ _ _ _ _ _ _ _ _ hXl hDl (hS.drewN _) hDD
    · have hd1 : ((cv : Int) != (N : Int)) = true := by
        rw [bne_iff_ne]
        intro e
        exact hcn (by omega)
      have hd2 : ((cv : Int) != stop) = false := by rw [hcv hcn]; simp
      clear hcv hcn
      go_quiet (fail)
      refine hKc _ _ ?_
      gi_wp2
      exact key2 _ _ _ _ _ _ _ _ _ _ hXl hDl (hS.drewN _) hDD
  refine wpIn_its (n := 30) (p := fun _ => False) (lb := #[.pointer (some ⟨w1.heap.size + 1 + 1 + 1, 0, none⟩)]) (gf := 43) rfl (enters_of Try.func43 (by kernel_rfl) rfl) ha (Below.refl _ _) (fun _ h => h.elim) (fun _ => rfl)
    (fun m X => Sta w w1.heap.size cut stop K t u k X ∧ ((Boxed X (w1.heap.size + 1) 25 (.int .u64 m) ∧ Boxed X (w1.heap.size + 1 + 1) 3 (.int .i64 m)) ∧ ∀ c : Nat, c < m → (c : Int) ≠ stop))
    (fun c m X => c = .exit 0 ∧ (Sta w w1.heap.size cut stop K t u k X ∧ Boxed X (w1.heap.size + 1 + 1) 3 (.int .i64 m)) ∧ (m : Int) = stop)
    (OwnFrom.and (Sta.own (by omega)) (OwnFrom.and (OwnFrom.and (Own.from (boxed_own _ _ (fun m : Nat => Value.int .u64 m)) _) (Own.from (boxed_own _ _ (fun m : Nat => Value.int .i64 m)) _)) (ownFrom_pure _ _)))
    (fun c => OwnFrom.and (ownFrom_pure _ _) (OwnFrom.and (OwnFrom.and (Sta.own (by omega)) (Own.from (boxed_own _ _ (fun m : Nat => Value.int .i64 m)) _)) (ownFrom_pure _ _)))
    ⟨s2, ⟨bK, bC⟩, fun c h => absurd h (by omega)⟩
    (fun m a' X => ∃ Bx, V.heap.size ≤ Bx ∧ X.heap[Bx]? = some (.cells #[.int .u64 m, .int .i64 (-1), .int .i64 0] 27 (0, 0)) ∧ a' = { tmps := #[.int .i64 x, .int .i64 cut, .int .i64 stop, .int .i64 i, .agg #[.int .u64 K, .int .i64 t, .int .i64 u], undef, .pointer (some ⟨w.heap.size, 0, none⟩), .pointer (some ⟨w.heap.size + 1, 0, none⟩), undef, .pointer (some ⟨w.heap.size + 1 + 1, 0, none⟩), .pointer (some ⟨w.heap.size + 1 + 1 + 1, 0, none⟩), .pointer (some ⟨w1.heap.size, 0, none⟩), .pointer (some ⟨w1.heap.size + 1, 0, none⟩), .pointer (some ⟨w1.heap.size + 1 + 1, 0, none⟩), .pointer (some ⟨Bx, 0, none⟩), undef, undef, undef, .bool true, .bool false, .int .i64 x, .int .i64 M, .int .i64 k, .int .i64 x, .func (.func 43) #[] #[.pointer (some ⟨w1.heap.size + 1 + 1 + 1, 0, none⟩)], .agg #[.int .u64 m, .int .i64 (-1), .int .i64 0], undef, undef, undef, undef, undef, undef, undef, undef, undef, undef, undef, undef, undef, undef, undef, undef, undef, undef, undef, undef, undef, undef, undef, undef, undef, undef, undef, undef, undef, undef, undef, undef, undef, undef, undef, undef, undef, undef, undef, undef, undef, undef, undef, undef, undef, undef, undef, undef, undef, undef, undef, undef, undef, undef, undef, undef, undef, undef, undef, undef, undef, undef, undef, undef, undef, undef, undef, undef, undef, undef, undef, undef, undef, undef, undef, undef, undef, undef, undef, undef, undef, undef, undef, undef, undef, undef, undef, undef, undef, undef], defers := [] })
    (fun m a' _ X Y row hs hg hr => by
      obtain ⟨Bx, h1, h2, h3⟩ := hs
      refine ⟨Bx, h1, (hg.block Bx (Array.getElem?_eq_some_iff.1 h2).1 fun e => ?_).trans h2, h3⟩
      obtain ⟨-, o, ho, hc⟩ := hr Bx e.symm
      rw [h2] at ho
      cases ho
      cases hc)
    ?assign ?body ?done ?stop
  case assign =>
    rintro l2 m X K2 hm hX ⟨hS, ⟨b1, b2⟩, hne⟩ hK2
    gi_wp2
    exact hK2 _ _ (Stay.alloc _ _ _) ⟨hS.alloc _, ⟨b1.alloc _, b2.alloc _⟩, hne⟩ ⟨X.heap.size, hX, World.alloc_heap_new X _, rfl⟩
  case body =>
    rintro l2 m a' X hm hX ⟨hS, ⟨b1, b2⟩, hne⟩ ⟨Bx, hBx, bx, rfl⟩
    have c1 := b1.cell
    have f1 := b1.frozen
    have c2 := b2.cell
    have f2 := b2.frozen
    have c3 := hS.stop.cell
    have x0 : X.cell? ⟨Bx, 0, none⟩ = some (.int .u64 m) := by simp [World.cell?, bx]
    have x1 : X.cell? ⟨Bx, 1, none⟩ = some (.int .i64 (-1)) := by simp [World.cell?, bx]
    have x2 : X.cell? ⟨Bx, 2, none⟩ = some (.int .i64 0) := by simp [World.cell?, bx]
    by_cases hms : (m : Int) = stop
    · have he : ((m : Int) == stop) = true := by simpa using hms
      gi_wp2
      exact ⟨Stay.refl _ _, rfl, ⟨hS, b2⟩, hms⟩
    · have he : ((m : Int) == stop) = false := by simpa using hms
      have hd1 : decide ((1024 : Int) < (m : Int)) = false := decide_eq_false (by omega)
      have hw2 : IntKind.u64.wrap ((m : Int) + 1) = ((m + 1 : Nat) : Int) := by rw [IntWalk.u64_in _ (by omega)]; rfl
      gi_wp2
      have g1 : ¬ (fun i => w1.heap.size + 4 ≤ i) (w1.heap.size + 1) := by dsimp only; omega
      have g2 : ¬ (fun i => w1.heap.size + 4 ≤ i) (w1.heap.size + 1 + 1) := by dsimp only; omega
      exact ⟨(Stay.setCell _ _ g1).trans (Stay.setCell _ _ g2), (hS.setCell _ _ (by omega) (by omega)).setCell _ _ (by omega) (by omega), ⟨(b1.set _).other (by omega) _, (b2.other (by omega) _).set _⟩, fun c hc => by
        rcases Nat.lt_or_ge c m with h | h
        · exact hne c h
        · have : c = m := by omega
          rw [this]; exact hms⟩
  case done =>
    rintro D X hD ⟨hS, ⟨b1, b2⟩, hne⟩ hDD
    exact key D X N hD hS b2 (fun h => absurd rfl h) hDD
  case stop =>
    rintro D c m X hD hm ⟨rfl, ⟨hS, b2⟩, hms⟩ hDD
    gi_wp2
    exact key D X m hD hS b2 (fun _ => hms) hDD
end Go.Proofs.Ytgnncbbfbhipaaa
