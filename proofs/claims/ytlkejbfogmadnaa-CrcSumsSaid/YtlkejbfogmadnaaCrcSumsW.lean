/-
  The walk of the statement on sums, byte by byte, and in two parts.
-/
import Derived.Test.YtlkejbfogmadnaaCrcAwake
import Derived.Deep.QuietTactic
import Derived.BigQuiet
namespace Go.Proofs.Ytlkejbfogmadnaa
open Go.ChangeShapes Go.WideShapes Go.ChangeAt Go.RowKit

/-- a contract that leaves the world, behind a region's draws -/
theorem quiet_kept {P : Program} {f : FuncId} {args : Array Value} {w : World} {m : Nat} {v : Value}
    (h : Calls P f args (w.drewN m) fun e w' => e = .returned v ∧ w.drewN m = w') : Calls P f args (w.drewN m) fun e w'' => e = .returned v ∧ ∃ k, w'' = w.drewN k :=
  h.mono fun _ _ ⟨he, hw⟩ => ⟨he, m, hw.symm⟩

set_option maxHeartbeats 1000000 in
theorem sums_out (A : Option Addr) (n c : Nat) (r i : Int) (w : World) (h : 2000 < n ∨ (n ≤ 2000 ∧ i < 0) ∨ (n ≤ 2000 ∧ 0 ≤ i ∧ (n : Int) < i)) :
    Calls Try.prog 3 #[.slice A n c, .int .u32 r, .int .i64 i] w fun e w' => e = .returned (.bool true) ∧ Below w.heap.size w w' := by
  rcases h with h | ⟨h1, h2⟩ | ⟨h1, h2, h3⟩
  all_goals
    go_enter Try.func3, Try.ntmps3
    go_wp2_with (go_at_call 6; refine (crcAwake_yes _).mono ?_; rintro e w' ⟨rfl, hb1⟩)
    go_ret
    exact ⟨rfl, hb1⟩

set_option maxHeartbeats 2000000 in
theorem sums_none (A : Option Addr) (c r : Nat) (w : World) (hr : r < 2 ^ 32) :
    Calls Try.prog 3 #[.slice A 0 c, .int .u32 (r : Int), .int .i64 0] w fun e w' => e = .returned (.bool true) ∧ Below w.heap.size w w' := by
  have t1 : ((Cm.sum [] : Int) == (Cm.sum [] : Int)) = true := by simp
  have t2 : ((r : Int) == (r : Int)) = true := by simp
  have cs := fun c (W : World) => sum_any A 0 c [] 0 W (Bs.nil _ _ _) (by omega)
  have ct := fun c (W : World) => refSum_any A 0 c [] 0 W (Bs.nil _ _ _) (by omega)
  have cm : ∀ (A : Option Addr) (c : Nat) (W : World), Calls Try.prog 10 #[.int .u32 (r : Int), .slice A 0 c] W fun e w' => e = .returned (.int .u32 (r : Nat)) ∧ W = w' := fun A c W => many_any r A 0 c [] 0 W (Bs.nil _ _ _) hr (by omega)
  obtain ⟨s, hs⟩ : ∃ s, s = Cm.sum [] := ⟨_, rfl⟩
  rw [← hs] at t1
  simp only [← hs] at cs ct
  clear hs
  go_enter Try.func3, Try.ntmps3
  go_wp2_with (go_at_call 6; refine (crcAwake_yes _).mono ?_; rintro e w' ⟨rfl, hb1⟩)
  go_loop [7, 28] (fun t i => i = .int .i64 0 ∧ t = .int .u32 r) (fun _ _ => 0)
  case atStart => exact ⟨rfl, rfl⟩
  case round =>
    obtain ⟨rfl, rfl⟩ := hrel
    go_wp2
    go_quiet (first | (go_at_call 8; exact quiet_kept (cs _ _)) | (go_at_call 9; exact quiet_kept (ct _ _)) | (go_at_call 10; exact quiet_kept (cm _ _ _)))
    go_wp2
    go_ret
    exact ⟨rfl, below_drewN hb1 _⟩

set_option maxHeartbeats 2000000 in
theorem sums_some (b off n c r j : Nat) (l : List UInt8) (w : World) (hs : Bs w w.heap.size (some ⟨b, off, none⟩) n l) (hc : n ≤ c) (hr : r < 2 ^ 32) (h0 : 0 < n) (hn : n ≤ 2000) (hj : j ≤ n) (hcj : c ≠ j) :
    Calls Try.prog 3 #[.slice (some ⟨b, off, none⟩) n c, .int .u32 (r : Int), .int .i64 (j : Int)] w fun e w' => e = .returned (.bool true) ∧ Below w.heap.size w w' := by
  have HS := Lib.hid hs
  have HL : Hid (l.length = n) := Lib.hid hs.1
  have hln : n ≤ 9223372036854775807 := by omega
  have g1 : decide (n < j) = false := decide_eq_false (by omega)
  have g2 : decide ((2000 : Int) < (n : Int)) = false := decide_eq_false (by omega)
  have g3 : decide ((j : Int) < 0) = false := decide_eq_false (by omega)
  clear hs
  go_enter Try.func3, Try.ntmps3
  go_wp2_with (go_at_call 6; refine (crcAwake_yes _).mono ?_; rintro e w1 ⟨rfl, hb1⟩)
  have HS1 := Lib.hid (HS.out.below hb1)
  clear HS
  go_loop [7, 28] (fun t i => ∃ (k d : Nat), k ≤ n ∧ i = .int .i64 k ∧ t = .int .u32 d ∧ d < 4294967296 ∧ Hid (Cm.many d (l.drop k) = Cm.many r l)) (fun _ i => n - (intOf i).toNat)
  case atStart => exact ⟨0, r, by omega, rfl, rfl, hr, Lib.hid rfl⟩
  case round =>
    obtain ⟨k, d, hk, rfl, rfl, hd, H⟩ := hrel
    by_cases hlt : k < n
    · have hkl : k < l.length := by rw [HL.out]; exact hlt
      obtain ⟨b', off', he, hB, hcells⟩ := HS1.out.2 (by omega)
      obtain ⟨rfl, rfl⟩ : b' = b ∧ off' = off := by simp at he; exact ⟨he.1.symm, he.2.symm⟩
      have hcell := hcells k hkl
      obtain ⟨x, hx⟩ : ∃ x, x = l[k] := ⟨_, rfl⟩
      rw [← hx] at hcell
      have H2 : Hid (Cm.many (Cm.next d x) (l.drop (k + 1)) = Cm.many r l) := by
        refine Lib.hid ?_
        rw [← H.out, List.drop_eq_getElem_cons hkl, hx]
        rfl
      have hl := Cm.next_lt x hd
      clear H hx hcells HL HS1 he
      go_wp2_with (go_at_call 7; refine (refNext_any d x _ hd).mono ?_; rintro e w' ⟨rfl, rfl⟩)
      go_round
      case rel => exact ⟨k + 1, _, by omega, by go_num, rfl, hl, H2⟩
      case measure => simp [intOf]; omega
    · have hE : d = Cm.many r l := by rw [← H.out, List.drop_of_length_le (by rw [HL.out]; omega)]; rfl
      have HE := Lib.hid hE
      clear H hE
      have hl0 : 0 < l.length := by rw [HL.out]; exact h0
      obtain ⟨b', off', he, hB, hcells⟩ := HS1.out.2 h0
      obtain ⟨rfl, rfl⟩ : b' = b ∧ off' = off := by simp at he; exact ⟨he.1.symm, he.2.symm⟩
      have hcell := hcells 0 hl0
      obtain ⟨x, hx⟩ : ∃ x, x = l[0] := ⟨_, rfl⟩
      rw [← hx, Nat.add_zero] at hcell
      clear hx hcells he
      have cs := fun c m => sum_any _ n c l _ (w1.drewN m) (HS1.out.drewN m) hln
      have ct := fun c m => refSum_any _ n c l _ (w1.drewN m) (HS1.out.drewN m) hln
      have cm1 := fun c m => many_any r _ n c l _ (w1.drewN m) (HS1.out.drewN m) hr hln
      rw [← HE.out] at cm1
      have cm2 := fun c m => many_any r _ j c (l.take j) _ (w1.drewN m) ((HS1.out.front hj).drewN m) hr (by omega)
      have hM := Cm.many_lt (l.take j) hr
      have hb3 := HS1.out.back hj hc
      rw [if_neg hcj] at hb3
      have e3 : (some (⟨b', off', none⟩ : Addr)).map (·.add j) = some ⟨b', off' + j, none⟩ := by
        simp only [Option.map_some, Addr.add]
        split <;> simp_all
      rw [e3] at hb3
      have cm3 := fun c m => many_any (Cm.many r (l.take j)) _ (n - j) c (l.drop j) _ (w1.drewN m) (hb3.drewN m) hM (by omega)
      rw [← Cm.many_append, List.take_append_drop, ← HE.out] at cm3
      clear hb3 e3 hM
      obtain ⟨s, hs⟩ : ∃ s, s = Cm.sum l := ⟨_, rfl⟩
      rw [← hs] at cs ct
      obtain ⟨M, hM⟩ : ∃ M, M = Cm.many r (l.take j) := ⟨_, rfl⟩
      rw [← hM] at cm2 cm3
      have cn := fun W => next_any r x W hr
      have cp := fun W => refNext_any r x W hr
      obtain ⟨N, hN⟩ : ∃ N, N = Cm.next r x := ⟨_, rfl⟩
      rw [← hN] at cn cp
      have t1 : ((s : Int) == (s : Int)) = true := by simp
      have t2 : ((d : Int) == (d : Int)) = true := by simp
      have t3 : ((n : Int) == 0) = false := by simp; omega
      have t4 : ((N : Int) == (N : Int)) = true := by simp
      clear hs hM hN HE HL HS1
      go_wp2
      go_quiet (first
        | (go_at_call 8; exact quiet_kept (cs _ _))
        | (go_at_call 9; exact quiet_kept (ct _ _))
        | (go_at_call 10; with_reducible exact quiet_kept (cm1 _ _))
        | (go_at_call 10; with_reducible exact quiet_kept (cm2 _ _))
        | (go_at_call 10; with_reducible exact quiet_kept (cm3 _ _))
        | (go_at_call 11; exact quiet_kept (cn _))
        | (go_at_call 7; exact quiet_kept (cp _)))
      go_wp2
      go_ret
      exact ⟨rfl, below_drewN hb1 _⟩
set_option maxHeartbeats 2000000 in
/-- the whole capacity is the first part -/
theorem sums_full (b off n r : Nat) (l : List UInt8) (w : World) (hs : Bs w w.heap.size (some ⟨b, off, none⟩) n l) (hr : r < 2 ^ 32) (h0 : 0 < n) (hn : n ≤ 2000) :
    Calls Try.prog 3 #[.slice (some ⟨b, off, none⟩) n n, .int .u32 (r : Int), .int .i64 (n : Int)] w fun e w' => e = .returned (.bool true) ∧ Below w.heap.size w w' := by
  have HS := Lib.hid hs
  have HL : Hid (l.length = n) := Lib.hid hs.1
  have hln : n ≤ 9223372036854775807 := by omega
  have g1 : decide (n < n) = false := decide_eq_false (by omega)
  have g2 : decide ((2000 : Int) < (n : Int)) = false := decide_eq_false (by omega)
  have g3 : decide ((n : Int) < 0) = false := decide_eq_false (by omega)
  clear hs
  go_enter Try.func3, Try.ntmps3
  go_wp2_with (go_at_call 6; refine (crcAwake_yes _).mono ?_; rintro e w1 ⟨rfl, hb1⟩)
  have HS1 := Lib.hid (HS.out.below hb1)
  clear HS
  go_loop [7, 28] (fun t i => ∃ (k d : Nat), k ≤ n ∧ i = .int .i64 k ∧ t = .int .u32 d ∧ d < 4294967296 ∧ Hid (Cm.many d (l.drop k) = Cm.many r l)) (fun _ i => n - (intOf i).toNat)
  case atStart => exact ⟨0, r, by omega, rfl, rfl, hr, Lib.hid rfl⟩
  case round =>
    obtain ⟨k, d, hk, rfl, rfl, hd, H⟩ := hrel
    by_cases hlt : k < n
    · have hkl : k < l.length := by rw [HL.out]; exact hlt
      obtain ⟨b', off', he, hB, hcells⟩ := HS1.out.2 (by omega)
      obtain ⟨rfl, rfl⟩ : b' = b ∧ off' = off := by simp at he; exact ⟨he.1.symm, he.2.symm⟩
      have hcell := hcells k hkl
      obtain ⟨x, hx⟩ : ∃ x, x = l[k] := ⟨_, rfl⟩
      rw [← hx] at hcell
      have H2 : Hid (Cm.many (Cm.next d x) (l.drop (k + 1)) = Cm.many r l) := by
        refine Lib.hid ?_
        rw [← H.out, List.drop_eq_getElem_cons hkl, hx]
        rfl
      have hl := Cm.next_lt x hd
      clear H hx hcells HL HS1 he
      go_wp2_with (go_at_call 7; refine (refNext_any d x _ hd).mono ?_; rintro e w' ⟨rfl, rfl⟩)
      go_round
      case rel => exact ⟨k + 1, _, by omega, by go_num, rfl, hl, H2⟩
      case measure => simp [intOf]; omega
    · have hE : d = Cm.many r l := by rw [← H.out, List.drop_of_length_le (by rw [HL.out]; omega)]; rfl
      have HE := Lib.hid hE
      clear H hE
      have hl0 : 0 < l.length := by rw [HL.out]; exact h0
      obtain ⟨b', off', he, hB, hcells⟩ := HS1.out.2 h0
      obtain ⟨rfl, rfl⟩ : b' = b ∧ off' = off := by simp at he; exact ⟨he.1.symm, he.2.symm⟩
      have hcell := hcells 0 hl0
      obtain ⟨x, hx⟩ : ∃ x, x = l[0] := ⟨_, rfl⟩
      rw [← hx, Nat.add_zero] at hcell
      clear hx hcells he
      have cs := fun c m => sum_any _ n c l _ (w1.drewN m) (HS1.out.drewN m) hln
      have ct := fun c m => refSum_any _ n c l _ (w1.drewN m) (HS1.out.drewN m) hln
      have cm1 := fun c m => many_any r _ n c l _ (w1.drewN m) (HS1.out.drewN m) hr hln
      rw [← HE.out] at cm1
      have hd3 : d < 2 ^ 32 := hd
      have cm3 : ∀ (A : Option Addr) (c m : Nat), Calls Try.prog 10 #[.int .u32 (d : Int), .slice A 0 c] (w1.drewN m) fun e w' => e = .returned (.int .u32 (d : Nat)) ∧ w1.drewN m = w' := fun A c m => many_any d A 0 c [] 0 (w1.drewN m) (Bs.nil _ _ _) hd3 (by omega)
      obtain ⟨s, hs⟩ : ∃ s, s = Cm.sum l := ⟨_, rfl⟩
      rw [← hs] at cs ct
      have cn := fun W => next_any r x W hr
      have cp := fun W => refNext_any r x W hr
      obtain ⟨N, hN⟩ : ∃ N, N = Cm.next r x := ⟨_, rfl⟩
      rw [← hN] at cn cp
      have t1 : ((s : Int) == (s : Int)) = true := by simp
      have t2 : ((d : Int) == (d : Int)) = true := by simp
      have t3 : ((n : Int) == 0) = false := by simp; omega
      have t4 : ((N : Int) == (N : Int)) = true := by simp
      clear hs hN HE HL HS1
      go_wp2
      go_quiet (first
        | (go_at_call 8; exact quiet_kept (cs _ _))
        | (go_at_call 9; exact quiet_kept (ct _ _))
        | (go_at_call 10; with_reducible exact quiet_kept (cm1 _ _))
        | (go_at_call 10; with_reducible exact quiet_kept (cm3 _ _ _))
        | (go_at_call 11; exact quiet_kept (cn _))
        | (go_at_call 7; exact quiet_kept (cp _)))
      go_wp2
      go_ret
      exact ⟨rfl, below_drewN hb1 _⟩

/-- for every argument -/
theorem sums_walk (A : Option Addr) (n c : Nat) (l : List UInt8) (r i : Int) (w : World) (hs : Bs w w.heap.size A n l) (hc : n ≤ c) (hr0 : 0 ≤ r) (hr1 : r ≤ 4294967295) (_ : -9223372036854775808 ≤ i) (_ : i ≤ 9223372036854775807) :
    Calls Try.prog 3 #[.slice A n c, .int .u32 r, .int .i64 i] w fun e w' => e = .returned (.bool true) ∧ Below w.heap.size w w' := by
  by_cases h : n ≤ 2000 ∧ 0 ≤ i ∧ i ≤ (n : Int)
  · obtain ⟨h1, h2, h3⟩ := h
    obtain ⟨j, rfl⟩ : ∃ j : Nat, i = (j : Int) := ⟨i.toNat, by omega⟩
    obtain ⟨q, rfl⟩ : ∃ q : Nat, r = (q : Int) := ⟨r.toNat, by omega⟩
    have hq : q < 2 ^ 32 := by omega
    rcases Nat.eq_zero_or_pos n with h0 | h0
    · subst h0
      obtain rfl : j = 0 := by omega
      exact sums_none A c q w hq
    · obtain ⟨b, off, rfl, _, _⟩ := hs.2 h0
      by_cases hcj : c = j
      · obtain rfl : j = n := by omega
        subst hcj
        exact sums_full b off c q l w hs hq h0 h1
      · exact sums_some b off n c q j l w hs hc hq h0 h1 (by omega) hcj
  · exact sums_out A n c r i w (by omega)
end Go.Proofs.Ytlkejbfogmadnaa
