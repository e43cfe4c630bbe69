/-
  The program's told, All, Torn: the plans, as iterators hand them out.
-/
import Derived.Test.YtgnncbbfbhipaaaIts
import Derived.Test.YtgnncbbfbhipaaaCrashKeeps
namespace Go.Proofs.Ytgnncbbfbhipaaa
open Go.ChangeShapes Go.WideShapes Go.ChangeAt Go.RowKit Go.Shelf
set_option maxRecDepth 100000
attribute [local go_sem] Oper.semAt_some

/-- of how many pages plans are told -/
def tld (n : Int) : Nat := (min (max n 0) 10).toNat
theorem tld_le (n : Int) : tld n ≤ 10 := by unfold tld; omega
theorem told_any (n : Int) (w : World) : Calls Try.prog 44 #[.int .i64 n] w fun e w' => e = .returned (.int .i64 (tld n : Nat)) ∧ w = w' := by
  have hv : (if (10 : Int) < (if n < 0 then 0 else n) then (10 : Int) else if n < 0 then 0 else n) = (tld n : Nat) := by
    unfold tld
    split <;> split <;> omega
  generalize tld n = r at *
  go_enter Try.func44, Try.ntmps44
  go_wp2
  all_goals
    go_ret
    exact ⟨rfl, rfl⟩
theorem all_its (x : Int) (nb : Nat) (w : World) (hc : w.cell? ⟨nb, 0, none⟩ = some (.int .i64 x)) :
    Its Try.prog 43 #[.pointer (some ⟨nb, 0, none⟩)] (fun m => #[.agg #[.int .u64 m, .int .i64 (-1), .int .i64 0]]) (2 ^ tld x) (fun _ => False) w := by
  intro n l J Jx W hW hJ hJx hY h0
  have hcW := (hW.cell (p := ⟨nb, 0, none⟩) (World.block_lt_of_cell? w _ hc)).trans hc
  have ct := told_any x W
  have hk := tld_le x
  generalize tld x = k at *
  refine callsIn_of_wp Try.func43 rfl trivial ?_ rfl
  simp only [Try.ntmps43, List.size_toArray, List.length_cons, List.length_nil, Nat.reduceAdd, Nat.reduceSub, Array.replicate_succ, Array.replicate_zero, List.push_toArray, List.append_toArray, List.nil_append, List.cons_append]
  gi_wp2_with (refine ⟨trivial, fun h => (by simp [Fence.wide] at h), ?_⟩; refine (callsIn_wide.2 ct).mono ?_; rintro e w1 ⟨rfl, rfl⟩)
  obtain ⟨N, hNe⟩ : ∃ N, N = 2 ^ k := ⟨_, rfl⟩
  have hN : N ≤ 1024 := by rw [hNe]; exact Nat.le_trans (Nat.pow_le_pow_right (by omega) hk) (by decide)
  have hw : IntKind.u64.wrap ((2 : Int) ^ k) = (N : Int) := by
    rw [show ((2 : Int) ^ k) = (N : Int) by rw [hNe]; simp]
    exact IntWalk.u64_in _ (by omega)
  rw [hw]
  rw [← hNe] at hY
  have HNE := Lib.hid hNe
  clear hw hk ct hcW hc hNe
  gi_loopw [3, 7] (fun _ i wr => ∃ m : Nat, m ≤ N ∧ i = .int .u64 m ∧ W.heap.size ≤ wr.heap.size ∧ J m wr) (fun _ i _ => N - (intOf i).toNat)
  case atStart => exact ⟨0, Nat.zero_le _, rfl, Nat.le_refl _, h0⟩
  case round =>
    obtain ⟨m, hm, rfl, hsz, hj⟩ := hrel
    by_cases hlt : m < N
    · have hd : decide ((m : Int) < N) = true := decide_eq_true (by omega)
      have hw2 : IntKind.u64.wrap ((m : Int) + 1) = ((m + 1 : Nat) : Int) := by rw [IntWalk.u64_in _ (by omega)]; rfl
      obtain ⟨fn, tmps, assign, body, hy, hR⟩ := hY (n - 1) m wr hlt hsz hj
      gi_wp2
      refine ⟨fun h => (by simp [Fence.wide] at h), ?_⟩
      refine hR.mono ?_
      rintro e W3 ⟨⟨rfl, hj3⟩ | ⟨rfl, hjx⟩, hs3⟩
      · gi_wp2
        go_roundw
        case rel => exact ⟨m + 1, by omega, by go_num, Nat.le_trans hsz hs3.size, hj3⟩
        case measure => simp [intOf]; omega
      · gi_wp2
        refine bodyPost_ret (results_none rfl _ _ _) rfl ?_
        exact ⟨⟨_, rfl⟩, .inr ⟨m, HNE.out ▸ hlt, hjx⟩⟩
    · obtain rfl : m = N := by omega
      have hd : decide ((m : Int) < m) = false := by simp
      gi_wp2
      go_end0
      exact ⟨⟨_, rfl⟩, .inl (HNE.out ▸ hj)⟩
theorem allFn_any (x : Int) (w : World) : Calls Try.prog 21 #[.int .i64 x] w fun e w' => e = .returned (.func (.func 43) #[] #[.pointer (some ⟨w.heap.size, 0, none⟩)]) ∧ w' = w.alloc (.cells #[.int .i64 x] 3) := by
  go_enter Try.func21, Try.ntmps21
  go_wp2
  go_ret
  exact ⟨rfl, rfl⟩
theorem tornFn_any (x u : Int) (w : World) : Calls Try.prog 22 #[.int .i64 x, .int .i64 u] w fun e w' => e = .returned (.func (.func 45) #[] #[.pointer (some ⟨w.heap.size, 0, none⟩), .pointer (some ⟨w.heap.size + 1, 0, none⟩)]) ∧ w' = (w.alloc (.cells #[.int .i64 x] 3)).alloc (.cells #[.int .i64 u] 3) := by
  go_enter Try.func22, Try.ntmps22
  go_wp2
  go_ret
  exact ⟨rfl, rfl⟩
set_option maxHeartbeats 4000000 in
theorem torn_its (x u : Int) (nb cb : Nat) (w : World) (hn : Boxed w nb 3 (.int .i64 x)) (hc : Boxed w cb 3 (.int .i64 u)) :
    Its Try.prog 45 #[.pointer (some ⟨nb, 0, none⟩), .pointer (some ⟨cb, 0, none⟩)] (fun m => #[.agg #[.int .u64 ((m / tld x : Nat) : Int), .int .i64 ((m % tld x : Nat) : Int), .int .i64 u]]) (2 ^ tld x * tld x) (fun i => i = nb ∨ i = cb) w := by
  intro n l J Jx W hW hJ hJx hY h0
  have hnW : Boxed W nb 3 (.int .i64 x) := (hW.block nb hn.lt).trans hn
  have hcW : Boxed W cb 3 (.int .i64 u) := (hW.block cb hc.lt).trans hc
  have HK := Lib.hid (tld_le x)
  obtain ⟨k, hk⟩ : ∃ k, k = tld x := ⟨_, rfl⟩
  obtain ⟨N, hN⟩ : ∃ N, N = 2 ^ k := ⟨_, rfl⟩
  rw [← hk, ← hN] at hY ⊢
  rw [← hk] at HK
  have HKE := Lib.hid hk
  have HN := Lib.hid hN
  clear hk hN
  have ca := allFn_any x (W.alloc (.cells #[.func (.yield l) #[] #[]] 80))
  have n0 := (hnW.alloc (.cells #[.func (.yield l) #[] #[]] 80)).cell
  refine callsIn_of_wp_marks Try.func45 rfl trivial ?_ rfl
  simp only [Try.ntmps45, List.size_toArray, List.length_cons, List.length_nil, Nat.reduceAdd, Nat.reduceSub, Array.replicate_succ, Array.replicate_zero, List.push_toArray, List.append_toArray, List.nil_append, List.cons_append]
  gi_wp2_with (refine ⟨trivial, fun h => (by simp [Fence.wide] at h), ?_⟩; refine (callsIn_wide.2 ca).mono ?_; rintro e w1 ⟨rfl, rfl⟩)
  have hB1 : Below W.heap.size W ((W.alloc (.cells #[.func (.yield l) #[] #[]] 80)).alloc (.cells #[.int .i64 x] 3)) := ((Below.refl _ W).alloc (Nat.le_refl _) _).alloc (by simp) _
  have bY := (Boxed.new W 80 (.func (.yield l) #[] #[])).alloc (.cells #[.int .i64 x] 3)
  have bN := Boxed.new (W.alloc (.cells #[.func (.yield l) #[] #[]] 80)) 3 (.int .i64 x)
  rw [World.size_alloc] at bN
  have hj0 : J 0 ((W.alloc (.cells #[.func (.yield l) #[] #[]] 80)).alloc (.cells #[.int .i64 x] 3)) := hJ.alloc _ (hJ.alloc _ h0)
  have hnV := (hnW.alloc (.cells #[.func (.yield l) #[] #[]] 80)).alloc (.cells #[.int .i64 x] 3)
  have hcV := (hcW.alloc (.cells #[.func (.yield l) #[] #[]] 80)).alloc (.cells #[.int .i64 x] 3)
  have hsz : ((W.alloc (.cells #[.func (.yield l) #[] #[]] 80)).alloc (.cells #[.int .i64 x] 3)).heap.size = W.heap.size + 2 := by simp
  obtain ⟨V, hV⟩ : ∃ V, V = (W.alloc (.cells #[.func (.yield l) #[] #[]] 80)).alloc (.cells #[.int .i64 x] 3) := ⟨_, rfl⟩
  rw [← hV] at hB1 bY bN hj0 hnV hcV hsz ⊢
  clear hV ca n0
  have hle : W.heap.size ≤ V.heap.size := by omega
  have ha := all_its x (W.heap.size + 1) V bN.cell
  rw [← HKE.out, ← HN.out] at ha
  have hnlt := hnV.lt
  have hclt := hcV.lt
  refine wpIn_its (n := n) (p := fun _ => False) (lb := #[.pointer (some ⟨W.heap.size + 1, 0, none⟩)]) (gf := 43) rfl (enters_of Try.func43 (by kernel_rfl) rfl) ha (Below.refl _ _) (fun _ h => h.elim) (fun _ => rfl)
    (fun m X => J (m * k) X ∧ (Boxed X W.heap.size 80 (.func (.yield l) #[] #[]) ∧ Boxed X nb 3 (.int .i64 x) ∧ Boxed X cb 3 (.int .i64 u)))
    (fun c m X => c = .ret ∧ ∃ q, q < N * k ∧ Jx q X)
    (OwnFrom.and (fun m X Y row hs hg hr => OwnFrom.le hJ hle (m * k) X Y row hs hg hr) (OwnFrom.and (Own.from (boxed_own _ _ (fun _ => _)) _) (OwnFrom.and (Own.from (boxed_own _ _ (fun _ => _)) _) (Own.from (boxed_own _ _ (fun _ => _)) _))))
    (fun c m X Y row hs hg hr => by
      obtain ⟨h1, q, h2, h3⟩ := hs
      exact ⟨h1, q, h2, OwnFrom.le hJx hle q X Y row h3 hg hr⟩)
    ⟨by rw [Nat.zero_mul]; exact hj0, bY, hnV, hcV⟩
    (fun m a' X => ∃ Bx, V.heap.size ≤ Bx ∧ X.heap[Bx]? = some (.cells #[.int .u64 m, .int .i64 (-1), .int .i64 0] 27 (0, 0)) ∧ a' = { tmps := #[.func (.yield l) #[] #[], .pointer (some ⟨nb, 0, none⟩), .pointer (some ⟨cb, 0, none⟩), .pointer (some ⟨W.heap.size, 0, none⟩), .pointer (some ⟨Bx, 0, none⟩), undef, .int .i64 x, .func (.func 43) #[] #[.pointer (some ⟨W.heap.size + 1, 0, none⟩)], .agg #[.int .u64 m, .int .i64 (-1), .int .i64 0], undef, undef, undef, undef, undef, undef, undef, undef, undef, undef, undef, undef, undef, undef], defers := [] })
    (fun m a' _ X Y row hs hg hr => by
      obtain ⟨Bx, h1, h2, h3⟩ := hs
      refine ⟨Bx, h1, (hg.block Bx (Array.getElem?_eq_some_iff.1 h2).1 fun e => ?_).trans h2, h3⟩
      obtain ⟨-, o, ho, hc⟩ := hr Bx e.symm
      rw [h2] at ho
      cases ho
      cases hc)
    ?assign ?body ?done ?stop
  case assign =>
    rintro l2 m X K hm hX ⟨hj, b1, b2, b3⟩ hK
    gi_wp2
    exact hK _ _ (Stay.alloc _ _ _) ⟨(OwnFrom.le hJ hle).alloc _ hj, b1.alloc _, b2.alloc _, b3.alloc _⟩ ⟨X.heap.size, hX, World.alloc_heap_new X _, rfl⟩
  case body =>
    rintro l2 m a' X hm hX ⟨hj, b1, b2, b3⟩ ⟨Bx, hBx, bx, rfl⟩
    have c2 := b2.cell
    have ct := told_any x X
    rw [← HKE.out] at ct
    gi_wp2_with (refine ⟨trivial, fun h => (by simp [Fence.wide] at h), ?_⟩; refine (CallsIn.inRound l2 (callsIn_wide.2 ct)).mono ?_; rintro e w1 ⟨rfl, rfl⟩)
    have hkk := HK.out
    gi_loopw [5, 11] (fun _ i wr => ∃ j : Nat, j ≤ k ∧ i = .int .i64 j ∧ J (m * k + j) wr ∧ Stay (fun i => False ∨ V.heap.size ≤ i) X wr ∧ (Boxed wr W.heap.size 80 (.func (.yield l) #[] #[]) ∧ Boxed wr nb 3 (.int .i64 x) ∧ Boxed wr cb 3 (.int .i64 u)) ∧ wr.heap[Bx]? = some (.cells #[.int .u64 m, .int .i64 (-1), .int .i64 0] 27 (0, 0))) (fun _ i _ => k - (intOf i).toNat)
    case atStart => exact ⟨0, Nat.zero_le _, rfl, hj, Stay.refl _ _, ⟨b1, b2, b3⟩, bx⟩
    case round =>
      obtain ⟨j, hjk, rfl, hjj, hst, ⟨d1, d2, d3⟩, dx⟩ := hrel
      by_cases hlt : j < k
      · have hd : decide ((j : Int) < k) = true := decide_eq_true (by omega)
        have c1 := d1.cell
        have c3 := d3.cell
        have cx : wr.cell? ⟨Bx, 0, none⟩ = some (.int .u64 m) := by simp [World.cell?, dx]
        have hlq : m * k + j < N * k := Nat.lt_of_lt_of_le (by rw [Nat.succ_mul]; omega : m * k + j < (m + 1) * k) (Nat.mul_le_mul_right _ hm)
        have e1 : (m * k + j) / k = m := by rw [Nat.mul_comm, Nat.mul_add_div (by omega), Nat.div_eq_of_lt hlt, Nat.add_zero]
        have e2 : (m * k + j) % k = j := by rw [Nat.mul_comm, Nat.mul_add_mod, Nat.mod_eq_of_lt hlt]
        obtain ⟨fn, tmps, assign, body, hy, hR⟩ := hY (n - 1) (m * k + j) wr hlq (by have := hst.size; omega) hjj
        rw [e1, e2] at hy
        clear e1 e2
        gi_wp2
        refine ⟨fun h => (by simp [Fence.wide] at h), ?_⟩
        refine RoundIn.mono (F := Fence.wide.inRound l2) hR ?_
        rintro e W3 ⟨⟨rfl, hj3⟩ | ⟨rfl, hjx⟩, hs3⟩
        · have hs4 : Stay (fun i => False ∨ V.heap.size ≤ i) wr W3 := hs3.mono fun i h => h.elim (fun h => h.elim) fun h => .inr (by omega)
          gi_wp2
          go_roundw
          case rel => exact ⟨j + 1, by omega, by go_num, hj3, hst.trans hs4, ⟨hs3.boxed (.inr (Nat.le_refl _)) d1, hs3.boxed (.inl (.inl rfl)) d2, hs3.boxed (.inl (.inr rfl)) d3⟩, hs3.at (.inr (by omega)) dx⟩
          case measure => simp [intOf]; omega
        · have hs4 : Stay (fun i => False ∨ V.heap.size ≤ i) wr W3 := hs3.mono fun i h => h.elim (fun h => h.elim) fun h => .inr (by omega)
          gi_wp2
          exact ⟨hst.trans hs4, rfl, _, hlq, hjx⟩
      · obtain rfl : j = k := by omega
        have hd : decide ((j : Int) < j) = false := by simp
        gi_wp2
        exact ⟨hst, by rw [Nat.succ_mul]; exact hjj, d1, d2, d3⟩
  case done =>
    rintro D X hD ⟨hj, -⟩ hK
    gi_wp2
    refine ⟨by simp, .inl ⟨_, _, rfl, run_takeDeferred hK, ?_⟩⟩
    exact ⟨_, results_none rfl _ _ _, ⟨_, rfl⟩, .inl (hJ.putObj _ hj (by omega) hK rfl)⟩
  case stop =>
    rintro D c m X hD hm ⟨rfl, q, hq, hjx⟩ hK
    gi_wp2
    refine ⟨by simp, .inl ⟨_, _, rfl, run_takeDeferred hK, ?_⟩⟩
    exact ⟨_, results_none rfl _ _ _, ⟨_, rfl⟩, .inr ⟨q, hq, hJx.putObj _ hjx (by omega) hK rfl⟩⟩
end Go.Proofs.Ytgnncbbfbhipaaa
