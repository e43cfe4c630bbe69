/-
  A slot of the program's index: its cells; bound, last, renewed; which objects and slices may be.
-/
import Derived.Test.YtcmhodimkpkmbaaDoorIxMap
import Derived.LoopTactic
import Derived.BigQuiet
import Derived.Deep.QuietTactic
namespace Go.Proofs.YtcmhodimkpkmbaaDoor
open Go.ChangeShapes Go.WideShapes Go.ChangeAt Go.RowKit
set_option maxRecDepth 100000

/-- a slot's cells, its slices by their map -/
def spC (s : Ix.Sl) (v : Value) : List Value := [.int .i64 s.bind.obj, .int .i64 s.bind.gen, .string s.bind.tag, .int .i64 s.bind.len, .int .i64 s.bind.tick, v, .int .i64 s.at_.1, .int .i64 s.at_.2, .int .i64 s.fl, .int .i64 s.tomb.1, .int .i64 s.tomb.2]
abbrev spV (s : Ix.Sl) (v : Value) : Value := .agg #[.int .i64 s.bind.obj, .int .i64 s.bind.gen, .string s.bind.tag, .int .i64 s.bind.len, .int .i64 s.bind.tick, v, .int .i64 s.at_.1, .int .i64 s.at_.2, .int .i64 s.fl, .int .i64 s.tomb.1, .int .i64 s.tomb.2]
theorem gen_b {s : Ix.Sl} (h : Ix.Ok1 s) : decide (0 < s.bind.gen) = s.b := by
  cases hb : s.b
  · obtain ⟨h1, _⟩ := h.none hb
    rw [h1]
    rfl
  · have h1 := h.above hb
    have h2 := h.fl0
    exact decide_eq_true (by omega)
theorem mayObj_any (o : Int) (w : World) : Calls Tryd.prog 40 #[.int .i64 o] w fun e w' => e = .returned (.bool (Ix.may o)) ∧ w = w' := by
  unfold Ix.may
  by_cases h1 : 0 ≤ o
  · by_cases h2 : o < 16
    · rw [decide_eq_true ⟨h1, by omega⟩]
      go_enter Tryd.func40, Tryd.ntmps40
      go_wp2
      go_ret
      exact ⟨rfl, rfl⟩
    · rw [decide_eq_false (fun h => h2 (by omega))]
      have e2 : decide (o < 16) = false := decide_eq_false h2
      go_enter Tryd.func40, Tryd.ntmps40
      go_wp2
      go_ret
      exact ⟨rfl, rfl⟩
  · rw [decide_eq_false (fun h => h1 h.1)]
    have e1 : decide (0 ≤ o) = false := decide_eq_false h1
    go_enter Tryd.func40, Tryd.ntmps40
    go_wp2
    go_ret
    exact ⟨rfl, rfl⟩
def mayS (i : Int) : Bool := decide (0 ≤ i ∧ i ≤ 4096)
theorem maySl_any (o : Int) (w : World) : Calls Tryd.prog 36 #[.int .i64 o] w fun e w' => e = .returned (.bool (mayS o)) ∧ w = w' := by
  unfold mayS
  by_cases h1 : 0 ≤ o
  · by_cases h2 : o ≤ 4096
    · rw [decide_eq_true ⟨h1, by omega⟩]
      go_enter Tryd.func36, Tryd.ntmps36
      go_wp2
      go_ret
      exact ⟨rfl, rfl⟩
    · rw [decide_eq_false (fun h => h2 (by omega))]
      have e2 : decide (o ≤ 4096) = false := decide_eq_false h2
      go_enter Tryd.func36, Tryd.ntmps36
      go_wp2
      go_ret
      exact ⟨rfl, rfl⟩
  · rw [decide_eq_false (fun h => h1 h.1)]
    have e1 : decide (0 ≤ o) = false := decide_eq_false h1
    go_enter Tryd.func36, Tryd.ntmps36
    go_wp2
    go_ret
    exact ⟨rfl, rfl⟩
/-- its box, and a bind's -/
abbrev spO (s : Ix.Sl) (v : Value) : Obj := .cells #[.int .i64 s.bind.obj, .int .i64 s.bind.gen, .string s.bind.tag, .int .i64 s.bind.len, .int .i64 s.bind.tick, v, .int .i64 s.at_.1, .int .i64 s.at_.2, .int .i64 s.fl, .int .i64 s.tomb.1, .int .i64 s.tomb.2] 32
abbrev bdO (b : Ix.Bd) : Obj := .cells #[.int .i64 b.obj, .int .i64 b.gen, .string b.tag, .int .i64 b.len, .int .i64 b.tick] 25
abbrev adO (a : Ix.Ad) : Obj := .cells #[.int .i64 a.1, .int .i64 a.2] 30
theorem bound_any {s : Ix.Sl} (h : Ix.Ok1 s) (v : Value) (w : World) : Calls Tryd.prog 35 #[spV s v] w fun e w' => e = .returned (.bool s.b) ∧ w' = w.alloc (spO s v) := by
  have hg := gen_b h
  obtain ⟨b, ⟨obj, gen, tag, len, tick⟩, at_, sl, fl, tomb⟩ := s
  obtain ⟨a1, a2⟩ := at_
  obtain ⟨t1, t2⟩ := tomb
  dsimp only at hg ⊢
  rw [← hg]
  clear hg h
  go_enter Tryd.func35, Tryd.ntmps35
  go_wp2
  go_ret
  exact ⟨rfl, rfl⟩
def lastI (s : Ix.Sl) : Int := if s.fl < s.bind.gen then s.bind.gen else s.fl
theorem last_any (s : Ix.Sl) (v : Value) (w : World) : Calls Tryd.prog 32 #[spV s v] w fun e w' => e = .returned (.int .i64 (lastI s)) ∧ w' = w.alloc (spO s v) := by
  have HL : Hid (lastI s = if s.fl < s.bind.gen then s.bind.gen else s.fl) := Lib.hid rfl
  generalize lastI s = x at *
  obtain ⟨b, ⟨obj, gen, tag, len, tick⟩, at_, sl, fl, tomb⟩ := s
  obtain ⟨a1, a2⟩ := at_
  obtain ⟨t1, t2⟩ := tomb
  dsimp only at HL ⊢
  go_enter Tryd.func32, Tryd.ntmps32
  go_wp2
  all_goals
    go_ret
    refine ⟨?_, rfl⟩
    first | (rw [HL.out, if_pos (by assumption)]; rfl) | (rw [HL.out, if_neg (by omega)]; rfl)
/-- whether a bind is known anew -/
def renB (s : Ix.Sl) (b : Ix.Bd) : Bool := s.b && decide (b.gen = s.bind.gen ∧ b.tag = s.bind.tag ∧ b.len = s.bind.len ∧ s.bind.tick ≤ b.tick)
set_option maxHeartbeats 1000000 in
theorem renewed_any {s : Ix.Sl} (h : Ix.Ok1 s) (v : Value) (b : Ix.Bd) (w : World) : Calls Tryd.prog 33 #[spV s v, bdV b] w fun e w' => e = .returned (.bool (renB s b)) ∧ w' = (((w.alloc (spO s v)).alloc (bdO b)).alloc (bdO s.bind)).alloc (spO s v) := by
  have cb := fun W => bound_any h v W
  obtain ⟨sb, ⟨so, sg, stg, sln, stk⟩, at_, sl, fl, tomb⟩ := s
  obtain ⟨a1, a2⟩ := at_
  obtain ⟨t1, t2⟩ := tomb
  obtain ⟨obj, gen, tag, len, tick⟩ := b
  have hr : renB ⟨sb, ⟨so, sg, stg, sln, stk⟩, (a1, a2), sl, fl, (t1, t2)⟩ ⟨obj, gen, tag, len, tick⟩ = (sb && decide (gen = sg ∧ tag = stg ∧ len = sln ∧ stk ≤ tick)) := rfl
  rw [hr]
  dsimp only at cb ⊢
  clear hr h
  cases sb
  · go_enter Tryd.func33, Tryd.ntmps33
    go_wp2_with (go_at_call 35; (with_reducible refine (cb _).mono ?_); rintro e w1 ⟨rfl, rfl⟩)
    go_ret
    exact ⟨rfl, rfl⟩
  · by_cases h1 : gen = sg
    · by_cases h2 : tag = stg
      · by_cases h3 : len = sln
        · by_cases h4 : stk ≤ tick
          · rw [decide_eq_true ⟨h1, h2, h3, h4⟩]
            have c1 : (gen == sg) = true := by simp [h1]
            have c2 : (tag.toList == stg.toList) = true := by simp [h2]
            have c3 : (len == sln) = true := by simp [h3]
            have c4 : decide (stk ≤ tick) = true := decide_eq_true h4
            clear h1 h2 h3 h4
            go_enter Tryd.func33, Tryd.ntmps33
            go_wp2_with (go_at_call 35; (with_reducible refine (cb _).mono ?_); rintro e w1 ⟨rfl, rfl⟩)
            go_ret
            exact ⟨rfl, rfl⟩
          · rw [decide_eq_false (fun h => h4 h.2.2.2)]
            have c1 : (gen == sg) = true := by simp [h1]
            have c2 : (tag.toList == stg.toList) = true := by simp [h2]
            have c3 : (len == sln) = true := by simp [h3]
            have c4 : decide (stk ≤ tick) = false := decide_eq_false h4
            clear h1 h2 h3 h4
            go_enter Tryd.func33, Tryd.ntmps33
            go_wp2_with (go_at_call 35; (with_reducible refine (cb _).mono ?_); rintro e w1 ⟨rfl, rfl⟩)
            go_ret
            exact ⟨rfl, rfl⟩
        · rw [decide_eq_false (fun h => h3 h.2.2.1)]
          have c1 : (gen == sg) = true := by simp [h1]
          have c2 : (tag.toList == stg.toList) = true := by simp [h2]
          have c3 : (len == sln) = false := by simp [h3]
          clear h1 h2 h3
          go_enter Tryd.func33, Tryd.ntmps33
          go_wp2_with (go_at_call 35; (with_reducible refine (cb _).mono ?_); rintro e w1 ⟨rfl, rfl⟩)
          go_ret
          exact ⟨rfl, rfl⟩
      · rw [decide_eq_false (fun h => h2 h.2.1)]
        have c1 : (gen == sg) = true := by simp [h1]
        have c2 : (tag.toList == stg.toList) = false := bytes_ne h2
        clear h1 h2
        go_enter Tryd.func33, Tryd.ntmps33
        go_wp2_with (go_at_call 35; (with_reducible refine (cb _).mono ?_); rintro e w1 ⟨rfl, rfl⟩)
        go_ret
        exact ⟨rfl, rfl⟩
    · rw [decide_eq_false (fun h => h1 h.1)]
      have c1 : (gen == sg) = false := by simp [h1]
      clear h1
      go_enter Tryd.func33, Tryd.ntmps33
      go_wp2_with (go_at_call 35; (with_reducible refine (cb _).mono ?_); rintro e w1 ⟨rfl, rfl⟩)
      go_ret
      exact ⟨rfl, rfl⟩
end Go.Proofs.YtcmhodimkpkmbaaDoor
