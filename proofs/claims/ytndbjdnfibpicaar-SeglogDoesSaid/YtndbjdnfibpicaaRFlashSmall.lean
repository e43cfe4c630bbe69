/-
  The program's device: Right, New, made, Shape, place, Used, Dirty, Sync.
-/
import Derived.Test.YtndbjdnfibpicaaRFlashClone
import Derived.LoopTactic
import Derived.IntWalk
import Derived.Deep.QuietTactic
import Derived.BigQuiet
import Derived.Test.YtndbjdnfibpicaaRMCells
namespace Go.Proofs.YtndbjdnfibpicaaR
open Go.ChangeShapes Go.WideShapes Go.ChangeAt Go.RowKit Fl
set_option maxRecDepth 100000

theorem fits_any (x lo hi : Int) (w : World) : Calls Try.prog 43 #[.int .i64 x, .int .i64 lo, .int .i64 hi] w fun e w' => e = .returned (.bool (decide (lo ≤ x ∧ x ≤ hi))) ∧ w = w' := by
  by_cases h1 : lo ≤ x
  · by_cases h2 : x ≤ hi
    · rw [decide_eq_true ⟨h1, h2⟩]
      go_enter Try.func43, Try.ntmps43
      go_wp2
      go_ret
      exact ⟨rfl, rfl⟩
    · rw [decide_eq_false (fun h => h2 h.2)]
      have e2 : decide (x ≤ hi) = false := decide_eq_false h2
      go_enter Try.func43, Try.ntmps43
      go_wp2
      go_ret
      exact ⟨rfl, rfl⟩
  · rw [decide_eq_false (fun h => h1 h.1)]
    have e1 : decide (lo ≤ x) = false := decide_eq_false h1
    go_enter Try.func43, Try.ntmps43
    go_wp2
    go_ret
    exact ⟨rfl, rfl⟩

/-- a shape that may be -/
def shpB (s p b : Int) : Bool := decide (1 ≤ s ∧ s ≤ 16) && decide (1 ≤ p ∧ p ≤ 64) && decide (16 ≤ b ∧ b ≤ 256)
set_option maxHeartbeats 2000000 in
theorem right_any (s p b : Int) (w : World) : Calls Try.prog 19 #[.agg #[.int .i64 s, .int .i64 p, .int .i64 b]] w fun e w' => e = .returned (.bool (shpB s p b)) ∧ Below w.heap.size w w' := by
  have f1 := fun W => fits_any s 1 16 W
  have f2 := fun W => fits_any p 1 64 W
  have f3 := fun W => fits_any b 16 256 W
  unfold shpB
  generalize decide (1 ≤ s ∧ s ≤ 16) = x1 at *
  generalize decide (1 ≤ p ∧ p ≤ 64) = x2 at *
  generalize decide (16 ≤ b ∧ b ≤ 256) = x3 at *
  have hb := (Below.refl w.heap.size w).alloc (Nat.le_refl _) (.cells #[.int .i64 s, .int .i64 p, .int .i64 b] 23)
  cases x1 <;> cases x2 <;> cases x3
  all_goals
    go_enter Try.func19, Try.ntmps19
    go_wp2_with (go_at_call 43; first | ((with_reducible refine (f1 _).mono ?_); rintro e w' ⟨rfl, rfl⟩) | ((with_reducible refine (f2 _).mono ?_); rintro e w' ⟨rfl, rfl⟩) | ((with_reducible refine (f3 _).mono ?_); rintro e w' ⟨rfl, rfl⟩))
    go_ret
    exact ⟨rfl, hb⟩

theorem made_no (w : World) : Calls Try.prog 44 #[.pointer none] w fun e w' => e = .returned (.bool false) ∧ w = w' := by
  have q1 := devNil
  go_enter Try.func44, Try.ntmps44
  go_wp2
  go_ret
  exact ⟨rfl, rfl⟩
section
variable {k S P B db mb : Nat} {w : World} {v : Nat → Nat} {L : List Pg}
/-- the five cells of a device -/
theorem Dev.five (h : Dev w v k S P B db mb L) : ∃ u, w.heap[db]? = some (.cells #[.int .i64 S, .int .i64 P, .int .i64 B, .map (some mb), u] 60 (0, 0)) ∧
    w.cell? ⟨db, 0, none⟩ = some (.int .i64 S) ∧ w.cell? ⟨db, 1, none⟩ = some (.int .i64 P) ∧ w.cell? ⟨db, 2, none⟩ = some (.int .i64 B) ∧ w.cell? ⟨db, 3, none⟩ = some (.map (some mb)) ∧ w.cell? ⟨db, 4, none⟩ = some u ∧
    w.frozen? ⟨db, 4, none⟩ = false ∧ w.ownsRow 0 51 2 u (dirt L).length (duos (dirt L)) ∧ ∀ g, u.ownBlock = some g → v g = k ∧ g ≠ db ∧ g ≠ mb := by
  obtain ⟨u, h1, h2, h3⟩ := h.cells
  refine ⟨u, h1, ?_, ?_, ?_, ?_, ?_, ?_, h2, h3⟩ <;> simp [World.cell?, World.frozen?, h1]
theorem made_yes (h : Dev w v k S P B db mb L) : Calls Try.prog 44 #[.pointer (some ⟨db, 0, none⟩)] w fun e w' => e = .returned (.bool true) ∧ w = w' := by
  have q1 := devNil
  have q2 := mapNil
  obtain ⟨u, _, _, _, _, c3, _⟩ := h.five
  clear h
  go_enter Try.func44, Try.ntmps44
  go_wp2
  go_ret
  exact ⟨rfl, rfl⟩
/-- what a place is: there, or not -/
def PlaceTo (S P : Nat) (s p : Int) (w : World) (e : Ending) (w' : World) : Prop :=
  (e = .returned (if 0 ≤ s ∧ s < S ∧ 0 ≤ p ∧ p < P then .tuple #[kv s p, .int .i64 0] else .tuple #[kv 0 0, .int .i64 6])) ∧ Below w.heap.size w w'
theorem place_any (h : Dev w v k S P B db mb L) (s p : Int) : Calls Try.prog 45 #[.pointer (some ⟨db, 0, none⟩), .int .i64 s, .int .i64 p] w (PlaceTo S P s p w) := by
  have hshp := h.shp
  obtain ⟨s1, s2, p1, p2, _, _⟩ := hshp
  have hlt := h.ltd
  have hbl := (Below.refl w.heap.size w).alloc (Nat.le_refl _) (.cells #[.int .i64 0, .int .i64 0] 51)
  have hm := fun W (hb : Below w.heap.size w W) => made_yes (h.below hb)
  have hm2 := hm _ hbl
  have w1 : IntKind.i64.wrap ((S : Int) - 1) = (S : Int) - 1 := IntWalk.i64_in _ (by omega)
  have w2 : IntKind.i64.wrap ((P : Int) - 1) = (P : Int) - 1 := IntWalk.i64_in _ (by omega)
  have f1 := fun W => fits_any s 0 ((S : Int) - 1) W
  have f2 := fun W => fits_any p 0 ((P : Int) - 1) W
  obtain ⟨u, _, c0, c1, _, _, _⟩ := (h.below hbl).five
  unfold PlaceTo
  by_cases hs : 0 ≤ s ∧ s ≤ (S : Int) - 1
  · rw [decide_eq_true hs] at f1
    by_cases hp : 0 ≤ p ∧ p ≤ (P : Int) - 1
    · rw [decide_eq_true hp] at f2
      rw [if_pos (by omega)]
      have hb3 := (Below.refl w.heap.size w).alloc (Nat.le_refl _) (.cells #[.int .i64 s, .int .i64 p] 51)
      clear h hm hs hp
      go_enter Try.func45, Try.ntmps45
      go_wp2_with (first
        | (go_at_call 44; (with_reducible refine hm2.mono ?_); rintro e w' ⟨rfl, rfl⟩)
        | (go_at_call 43; first | ((with_reducible refine (f1 _).mono ?_); rintro e w' ⟨rfl, rfl⟩) | ((with_reducible refine (f2 _).mono ?_); rintro e w' ⟨rfl, rfl⟩)))
      exact bodyPost_ret (v := .tuple #[.agg #[.int .i64 s, .int .i64 p], .int .i64 0]) (by simp [results, Try.results45, go_sem]) rfl ⟨rfl, hb3⟩
    · rw [decide_eq_false hp] at f2
      rw [if_neg (by omega)]
      clear h hm hs hp
      go_enter Try.func45, Try.ntmps45
      go_wp2_with (first
        | (go_at_call 44; (with_reducible refine hm2.mono ?_); rintro e w' ⟨rfl, rfl⟩)
        | (go_at_call 43; first | ((with_reducible refine (f1 _).mono ?_); rintro e w' ⟨rfl, rfl⟩) | ((with_reducible refine (f2 _).mono ?_); rintro e w' ⟨rfl, rfl⟩)))
      exact bodyPost_ret (v := .tuple #[.agg #[.int .i64 0, .int .i64 0], .int .i64 6]) (by simp [results, Try.results45, go_sem]) rfl ⟨rfl, hbl⟩
  · rw [decide_eq_false hs] at f1
    rw [if_neg (by omega)]
    clear h hm hs
    go_enter Try.func45, Try.ntmps45
    go_wp2_with (first
      | (go_at_call 44; (with_reducible refine hm2.mono ?_); rintro e w' ⟨rfl, rfl⟩)
      | (go_at_call 43; first | ((with_reducible refine (f1 _).mono ?_); rintro e w' ⟨rfl, rfl⟩) | ((with_reducible refine (f2 _).mono ?_); rintro e w' ⟨rfl, rfl⟩)))
    exact bodyPost_ret (v := .tuple #[.agg #[.int .i64 0, .int .i64 0], .int .i64 6]) (by simp [results, Try.results45, go_sem]) rfl ⟨rfl, hbl⟩
theorem place_nil (s p : Int) (w : World) : Calls Try.prog 45 #[.pointer none, .int .i64 s, .int .i64 p] w fun e w' => e = .returned (.tuple #[kv 0 0, .int .i64 2]) ∧ Below w.heap.size w w' := by
  have hbl := (Below.refl w.heap.size w).alloc (Nat.le_refl _) (.cells #[.int .i64 0, .int .i64 0] 51)
  have hm := fun W => made_no W
  go_enter Try.func45, Try.ntmps45
  go_wp2_with (go_at_call 44; (with_reducible refine (hm _).mono ?_); rintro e w' ⟨rfl, rfl⟩)
  exact bodyPost_ret (v := .tuple #[.agg #[.int .i64 0, .int .i64 0], .int .i64 2]) (by simp [results, Try.results45, go_sem]) rfl ⟨rfl, hbl⟩

/-! Shape, Dirty, Sync, Used -/
theorem shape_nil (w : World) : Calls Try.prog 21 #[.pointer none] w fun e w' => e = .returned (.agg #[.int .i64 0, .int .i64 0, .int .i64 0]) ∧ Below w.heap.size w w' := by
  have hbl := (Below.refl w.heap.size w).alloc (Nat.le_refl _) (.cells #[.int .i64 0, .int .i64 0, .int .i64 0] 23)
  have hm := fun W => made_no W
  go_enter Try.func21, Try.ntmps21
  go_wp2_with (go_at_call 44; (with_reducible refine (hm _).mono ?_); rintro e w' ⟨rfl, rfl⟩)
  exact bodyPost_ret (v := .agg #[.int .i64 0, .int .i64 0, .int .i64 0]) (by simp [results, Try.results21, go_sem]) rfl ⟨rfl, hbl⟩
theorem shape_any (h : Dev w v k S P B db mb L) : Calls Try.prog 21 #[.pointer (some ⟨db, 0, none⟩)] w fun e w' => e = .returned (.agg #[.int .i64 S, .int .i64 P, .int .i64 B]) ∧ Below w.heap.size w w' := by
  have hbl := (Below.refl w.heap.size w).alloc (Nat.le_refl _) (.cells #[.int .i64 0, .int .i64 0, .int .i64 0] 23)
  have hm := made_yes (h.below hbl)
  have hb2 := (Below.refl w.heap.size w).alloc (Nat.le_refl _) (.cells #[.int .i64 S, .int .i64 P, .int .i64 B] 23)
  have hlt := h.ltd
  obtain ⟨u, _, c0, c1, c2, _, _⟩ := (h.below hbl).five
  clear h
  go_enter Try.func21, Try.ntmps21
  go_wp2_with (go_at_call 44; (with_reducible refine hm.mono ?_); rintro e w' ⟨rfl, rfl⟩)
  exact bodyPost_ret (v := .agg #[.int .i64 S, .int .i64 P, .int .i64 B]) (by simp [results, Try.results21, go_sem]) rfl ⟨rfl, hb2⟩
theorem dirty_nil (w : World) : Calls Try.prog 35 #[.pointer none] w fun e w' => e = .returned (.int .i64 0) ∧ w = w' := by
  have hm := fun W => made_no W
  go_enter Try.func35, Try.ntmps35
  go_wp2_with (go_at_call 44; (with_reducible refine (hm _).mono ?_); rintro e w' ⟨rfl, rfl⟩)
  go_ret
  exact ⟨rfl, rfl⟩
theorem dirty_any (h : Dev w v k S P B db mb L) : Calls Try.prog 35 #[.pointer (some ⟨db, 0, none⟩)] w fun e w' => e = .returned (.int .i64 ((dirt L).length : Nat)) ∧ w = w' := by
  have hm := made_yes h
  obtain ⟨u, _, _, _, _, _, c4, _, hr, _⟩ := h.five
  clear h
  have hu : ∃ A c, u = .slice A (dirt L).length c := by
    rcases hr.2 with ⟨rfl, h0⟩ | ⟨g, c, cur, rfl, _⟩
    · exact ⟨none, 0, by rw [h0]⟩
    · exact ⟨_, c, rfl⟩
  obtain ⟨A, c, rfl⟩ := hu
  clear hr
  generalize (dirt L).length = n at *
  go_enter Try.func35, Try.ntmps35
  go_wp2_with (go_at_call 44; (with_reducible refine hm.mono ?_); rintro e w' ⟨rfl, rfl⟩)
  go_ret
  exact ⟨rfl, rfl⟩
theorem sync_nil (w : World) : Calls Try.prog 53 #[.pointer none] w fun e w' => e = .returned (.tuple #[]) ∧ w = w' := by
  have hm := fun W => made_no W
  go_enter Try.func53, Try.ntmps53
  go_wp2_with (go_at_call 44; (with_reducible refine (hm _).mono ?_); rintro e w' ⟨rfl, rfl⟩)
  go_end0
  exact ⟨rfl, rfl⟩
/-- the row of those that aren't lasting is another one -/
theorem heap_five {u u' : Value} (h : w.heap[db]? = some (.cells #[.int .i64 S, .int .i64 P, .int .i64 B, .map (some mb), u] 60 (0, 0))) :
    (w.setCell ⟨db, 4, none⟩ u').heap[db]? = some (.cells #[.int .i64 S, .int .i64 P, .int .i64 B, .map (some mb), u'] 60 (0, 0)) := by
  simp [World.setCell, Array.getElem?_modify, h]
/-- what comes of all becoming lasting, if the map already holds M -/
theorem Dev.synced {u0 : Value} {M : List Pg} (h : w.heap[db]? = some (.cells #[.int .i64 S, .int .i64 P, .int .i64 B, .map (some mb), u0] 60 (0, 0))) (hs : Shp S P B) (ho : Ok S P B M) (hf : Fr w v) (vd : v db = k) (vm : v mb = k) (hk : k ≠ 0) (hne : mb ≠ db) (hm : Pm w v mb M)
    (hd : dirt M = []) : Dev (w.setCell ⟨db, 4, none⟩ nl) v k S P B db mb M ∧ Stp k w (w.setCell ⟨db, 4, none⟩ nl) v v := by
  have hst : Stp k w (w.setCell ⟨db, 4, none⟩ nl) v v := Stp.setCell (a := ⟨db, 4, none⟩) vd nl hf
  refine ⟨⟨hs, ho, hst.fresh, vd, vm, hne, ⟨nl, heap_five h, by rw [hd]; exact World.ownsRow_nil _ _ _ _, fun g hg => by cases hg⟩, ?_⟩, hst⟩
  obtain ⟨f, h1, h2⟩ := hm
  have hg : w.grownBy (w.setCell ⟨db, 4, none⟩ nl) (some db) := ⟨rfl, rfl, rfl, by simp [World.setCell], fun i _ hi => Below.heap_setCell w _ nl i fun e => hi (by rw [e])⟩
  refine ⟨f, h1.kept hg (by simpa using hne), fun s p => ?_⟩
  rcases h2 s p with h3 | ⟨r, x, h3, h4, h5⟩
  · exact .inl h3
  · exact .inr ⟨r, x, h3, h4, h5.stp hst hk⟩
theorem Pm.same {M : List Pg} (h : Pm w v mb L) (hl : M.length = L.length) (hk : ∀ s p, lk M s p = lk L s p) : Pm w v mb M := by
  obtain ⟨f, h1, h2⟩ := h
  exact ⟨f, by rw [hl]; exact h1, fun s p => by rw [hk]; exact h2 s p⟩
theorem sync_any (h : Dev w v k S P B db mb L) (hk : k ≠ 0) : Calls Try.prog 53 #[.pointer (some ⟨db, 0, none⟩)] w fun e w' => e = .returned (.tuple #[]) ∧ Dev w' v k S P B db mb (sync L) ∧ Stp k w w' v v := by
  have hm := made_yes h
  have hlt := h.ltd
  obtain ⟨u, hh, _, _, _, _, c4, f4, hr, _⟩ := h.five
  have HF := Lib.hid (Dev.synced hh h.shp h.ok.sync h.fr h.vd h.vm hk h.ne (h.map.same (sync_length L) (lk_sync L)) (dirt_sync L))
  clear h hr hh
  go_enter Try.func53, Try.ntmps53
  go_wp2_with (go_at_call 44; (with_reducible refine hm.mono ?_); rintro e w' ⟨rfl, rfl⟩)
  go_end0
  exact ⟨rfl, HF.out⟩
/-- what a look-up gives, in each world behind -/
theorem Dev.lookup (h : Dev w v k S P B db mb L) {s p : Int} (hs : W64 s) (hp : W64 p) (c : Bool) : ∃ x, ∀ W, Below w.heap.size w W → W.cell? ⟨db, 3, none⟩ = some (.map (some mb)) ∧
    (Instr.lookup 57 (.map (some mb)) (kv s p) c).run Try.prog W = .ok (if c then .tuple #[x, .bool (lk L s p).isSome] else x) W ∧
    ((lk L s p = none ∧ x = nl) ∨ ∃ r, lk L s p = some r ∧ Dt W v x r) := by
  obtain ⟨f, h1, h2⟩ := h.map
  have hk (W : World) (hb : Below w.heap.size w W) : Mp W mb L.length f := h1.kept (row := none) ⟨hb.os, hb.tape, hb.output, hb.size, fun i hi _ => hb.block i hi⟩ (by simp)
  have hc (W : World) (hb : Below w.heap.size w W) : W.cell? ⟨db, 3, none⟩ = some (.map (some mb)) := by
    obtain ⟨u, _, _, _, _, c3, _⟩ := (h.below hb).five
    exact c3
  rcases h2 s p with ⟨e1, e2⟩ | ⟨r, x, e1, e2, hd⟩
  · refine ⟨nl, fun W hb => ⟨hc W hb, ?_, .inl ⟨e1, rfl⟩⟩⟩
    rw [(hk W hb).look hs hp c, e1, e2]
    rfl
  · refine ⟨x, fun W hb => ⟨hc W hb, ?_, .inr ⟨r, e1, hd.stp (k := 1) (Stp.below hb h.fr) (by omega)⟩⟩⟩
    rw [(hk W hb).look hs hp c, e1, e2]
    rfl
/-- whether a page is used -/
theorem used_nil (s p : Int) (w : World) : Calls Try.prog 40 #[.pointer none, .int .i64 s, .int .i64 p] w fun e w' => e = .returned (.bool false) ∧ Below w.heap.size w w' := by
  have hp := place_nil s p w
  go_enter Try.func40, Try.ntmps40
  go_wp2_with (go_at_call 45; (with_reducible refine hp.mono ?_); rintro e w1 ⟨rfl, hb1⟩; unfold kv)
  go_ret
  exact ⟨rfl, hb1.alloc hb1.size _⟩
theorem used_any (h : Dev w v k S P B db mb L) (s p : Int) (hs : W64 s) (hp : W64 p) : Calls Try.prog 40 #[.pointer (some ⟨db, 0, none⟩), .int .i64 s, .int .i64 p] w fun e w' => e = .returned (.bool (lk L s p).isSome) ∧ Below w.heap.size w w' := by
  have hpl := place_any h s p
  unfold PlaceTo at hpl
  have HD := Lib.hid h
  by_cases hin : 0 ≤ s ∧ s < S ∧ 0 ≤ p ∧ p < P
  · simp only [if_pos hin] at hpl
    obtain ⟨x, HL⟩ := h.lookup hs hp true
    replace HL := Lib.hid HL
    clear h hin
    go_enter Try.func40, Try.ntmps40
    go_wp2_with (go_at_call 45; (with_reducible refine hpl.mono ?_); rintro e w1 ⟨rfl, hb1⟩; unfold kv; have hb2 := hb1.alloc hb1.size (.cells #[.int .i64 s, .int .i64 p] 51); have hc := (HL.out _ hb2).1; have hlk := fun m => (HL.out _ (below_drewN hb2 m)).2.1; clear hpl)
    unfold kv at hlk
    simp only [if_true] at hlk
    go_quiet (fail)
    go_wp2
    go_ret
    exact ⟨rfl, below_drewN hb2 _⟩
  · simp only [if_neg hin] at hpl
    have hn : lk L s p = none := by
      rw [lk_none]
      intro q hq
      have := HD.out.ok.rng q hq
      rw [at_not]
      intro e
      injection e with e1 e2
      exact hin ⟨by rw [← e1]; exact this.s0, by rw [← e1]; exact this.s1, by rw [← e2]; exact this.p0, by rw [← e2]; exact this.p1⟩
    rw [hn]
    clear h hin HD hn
    go_enter Try.func40, Try.ntmps40
    go_wp2_with (go_at_call 45; (with_reducible refine hpl.mono ?_); rintro e w1 ⟨rfl, hb1⟩; unfold kv)
    go_ret
    exact ⟨rfl, hb1.alloc hb1.size _⟩
end
end Go.Proofs.YtndbjdnfibpicaaR
