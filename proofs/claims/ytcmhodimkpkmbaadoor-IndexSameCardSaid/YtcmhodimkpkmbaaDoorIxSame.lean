/-
  Same: two slots, two indices of the program held against each other.
-/
import Derived.Test.YtcmhodimkpkmbaaDoorIxMEqual
import Derived.Test.YtcmhodimkpkmbaaDoorIxObjects
import Derived.Deep.RegionHeld3
namespace Go.Proofs.YtcmhodimkpkmbaaDoor
open Go.ChangeShapes Go.WideShapes Go.ChangeAt Go.RowKit
set_option maxRecDepth 100000

/-- whether two slots are the same -/
def slotB (s t : Ix.Sl) : Bool := bdB s.bind t.bind && (adB s.at_ t.at_ && (slB s.sl t.sl && ((s.fl == t.fl) && adB s.tomb t.tomb)))
theorem slotB_iff {s t : Ix.Sl} (hs : Ix.Ok1 s) (ht : Ix.Ok1 t) : slotB s t = true ↔ s = t := by
  unfold slotB slB
  simp only [Bool.and_eq_true, adB_iff, bdB_iff, decide_eq_true_iff, beq_iff_eq]
  constructor
  · rintro ⟨h1, h2, h3, h4, h5⟩
    have hb : s.b = t.b := by rw [← gen_b hs, ← gen_b ht, h1]
    cases s
    cases t
    simp only at h1 h2 h3 h4 h5 hb
    subst h1 h2 h3 h4 h5 hb
    rfl
  · rintro rfl
    exact ⟨rfl, rfl, rfl, rfl, rfl⟩
set_option maxHeartbeats 4000000 in
theorem slotSame_any {w : World} {s t : Ix.Sl} {m1 m2 : Option Nat} (hs : Ix.Ok1 s) (ht : Ix.Ok1 t) (h1 : MapOf w (.map m1) s.sl) (h2 : MapOf w (.map m2) t.sl) :
    Calls Tryd.prog 39 #[spV s (.map m1), spV t (.map m2)] w fun e w' => e = .returned (.bool (slotB s t)) ∧ Below w.heap.size w w' := by
  have hq1 := bd_eql s.bind t.bind
  have hq2 := ad_eql s.at_ t.at_
  have hq5 := ad_eql s.tomb t.tomb
  obtain ⟨w0, hw0⟩ : ∃ w0, w0 = (w.alloc (spO s (.map m1))).alloc (spO t (.map m2)) := ⟨_, rfl⟩
  have hb0 : Below w.heap.size w w0 := by rw [hw0]; exact ((Below.refl _ w).alloc (Nat.le_refl _) _).alloc (by simp) _
  have hx0 : w0.heap[w.heap.size]? = some (spO s (.map m1)) := by
    rw [hw0]
    exact (Below.heap_alloc _ _ _ (by simp)).trans (heap_alloc_new w _)
  have hy0 : w0.heap[w.heap.size + 1]? = some (spO t (.map m2)) := by
    have h9 := heap_alloc_new (w.alloc (spO s (.map m1))) (spO t (.map m2))
    rw [World.size_alloc] at h9
    rw [hw0]
    exact h9
  have cm := mequal_any (h1.below hb0) (h2.below hb0) hs.rise ht.rise
  have HB0 := Lib.hid hb0
  have HX0 := Lib.hid hx0
  have HY0 := Lib.hid hy0
  obtain ⟨q4, hq4⟩ : ∃ q, q = (s.fl == t.fl) := ⟨_, rfl⟩
  have hq4' := hq4.symm
  obtain ⟨r, hr⟩ : ∃ r, r = slotB s t := ⟨_, rfl⟩
  have HR := Lib.hid hr
  unfold slotB at HR
  rw [← hq4] at HR
  rw [← hr]
  generalize bdB s.bind t.bind = q1 at *
  generalize adB s.at_ t.at_ = q2 at *
  generalize slB s.sl t.sl = q3 at *
  generalize adB s.tomb t.tomb = q5 at *
  clear hr hq4 hs ht h1 h2 hb0 hx0 hy0
  obtain ⟨sb, ⟨so, sg, stg, sln, stk⟩, ⟨s1, s2⟩, sl, fl, ⟨t1, t2⟩⟩ := s
  obtain ⟨ub, ⟨uo, ug, utg, uln, utk⟩, ⟨u1, u2⟩, ul, ufl, ⟨y1, y2⟩⟩ := t
  dsimp only at hq1 hq2 hq5 hq4'
  subst hw0
  cases q1
  · go_enter Tryd.func39, Tryd.ntmps39
    go_wp2
    go_ret
    exact ⟨by rw [HR.out]; rfl, HB0.out⟩
  · cases q2
    · go_enter Tryd.func39, Tryd.ntmps39
      go_wp2
      go_ret
      exact ⟨by rw [HR.out]; rfl, HB0.out⟩
    · cases q3
      · go_enter Tryd.func39, Tryd.ntmps39
        go_wp2_with (go_at_call 43; (with_reducible refine cm.mono ?_); rintro e w3 ⟨rfl, hb3⟩; have HB3 := Lib.hid (HB0.out.trans (hb3.mono HB0.out.size)); clear hb3)
        go_ret
        exact ⟨by rw [HR.out]; rfl, HB3.out⟩
      · cases q4
        · go_enter Tryd.func39, Tryd.ntmps39
          go_wp2_with (go_at_call 43; (with_reducible refine cm.mono ?_); rintro e w3 ⟨rfl, hb3⟩; have HB3 := Lib.hid (HB0.out.trans (hb3.mono HB0.out.size)); obtain ⟨c0, c1, c2, c3, c4, c5, c6, c7, c8, c9, c10⟩ := cells11 ((hb3.block _ (lt_of_at HX0.out)).trans HX0.out); obtain ⟨d0, d1, d2, d3, d4, d5, d6, d7, d8, d9, d10⟩ := cells11 ((hb3.block _ (lt_of_at HY0.out)).trans HY0.out); clear hb3)
          go_ret
          exact ⟨by rw [HR.out]; rfl, HB3.out⟩
        · go_enter Tryd.func39, Tryd.ntmps39
          go_wp2_with (go_at_call 43; (with_reducible refine cm.mono ?_); rintro e w3 ⟨rfl, hb3⟩; have HB3 := Lib.hid (HB0.out.trans (hb3.mono HB0.out.size)); obtain ⟨c0, c1, c2, c3, c4, c5, c6, c7, c8, c9, c10⟩ := cells11 ((hb3.block _ (lt_of_at HX0.out)).trans HX0.out); obtain ⟨d0, d1, d2, d3, d4, d5, d6, d7, d8, d9, d10⟩ := cells11 ((hb3.block _ (lt_of_at HY0.out)).trans HY0.out); clear hb3)
          go_ret
          exact ⟨by rw [HR.out]; rfl, HB3.out⟩
end Go.Proofs.YtcmhodimkpkmbaaDoor
