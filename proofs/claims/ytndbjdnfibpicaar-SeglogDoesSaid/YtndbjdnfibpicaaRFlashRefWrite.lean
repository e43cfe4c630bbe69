/-
  The document's device: Write.
-/
import Derived.Test.YtndbjdnfibpicaaRFlashRefErase
import Derived.Test.YtndbjdnfibpicaaRFlashWrite
namespace Go.Proofs.YtndbjdnfibpicaaR
open Go.ChangeShapes Go.WideShapes Go.ChangeAt Go.RowKit Fl
set_option maxRecDepth 100000

section
variable {k S P B xb : Nat} {w : World} {v : Nat → Nat} {L : List Pg}
theorem refWrite_out (h : Rdv w v k S P B xb L) (s p : Int) (x : Value) (hin : ¬ (0 ≤ s ∧ s < S ∧ 0 ≤ p ∧ p < P)) :
    Calls Try.prog 66 #[.pointer (some ⟨xb, 0, none⟩), .int .i64 s, .int .i64 p, x] w fun e w' => e = .returned (.int .i64 6) ∧ Below w.heap.size w w' := by
  have hh := has_any h s p
  rw [decide_eq_false hin] at hh
  clear h hin
  go_enter Try.func66, Try.ntmps66
  go_wp2_with (go_at_call 64; (with_reducible refine hh.mono ?_); rintro e w1 ⟨rfl, rfl⟩)
  go_ret
  exact ⟨rfl, Below.refl _ _⟩
theorem refWrite_long (h : Rdv w v k S P B xb L) (s p : Int) (A : Option Addr) (n c : Nat) (hin : 0 ≤ s ∧ s < S ∧ 0 ≤ p ∧ p < P) (hn : B < n) :
    Calls Try.prog 66 #[.pointer (some ⟨xb, 0, none⟩), .int .i64 s, .int .i64 p, .slice A n c] w fun e w' => e = .returned (.int .i64 10) ∧ Below w.heap.size w w' := by
  have hh := has_any h s p
  rw [decide_eq_true hin] at hh
  obtain ⟨u, Q, -, -, -, c2, -⟩ := h.four
  have hlt : (B : Int) < n := by omega
  clear h hin
  go_enter Try.func66, Try.ntmps66
  go_wp2_with (go_at_call 64; (with_reducible refine hh.mono ?_); rintro e w1 ⟨rfl, rfl⟩)
  go_ret
  exact ⟨rfl, Below.refl _ _⟩
theorem find_some (h : Rdv w v k S P B xb L) (s p : Int) (hL : L.length ≤ 100000) (hu : (lk L s p).isSome = true) : Calls Try.prog 41 #[.pointer (some ⟨xb, 0, none⟩), .int .i64 s, .int .i64 p] w fun e w' => ∃ j : Nat, e = .returned (.int .i64 j) ∧ Below w.heap.size w w' := by
  refine (find_any h s p hL).mono ?_
  rintro e w' ⟨hb, ⟨h1, _⟩ | ⟨j, hj, _, _, h1, rfl⟩⟩
  · rw [h1] at hu; cases hu
  · exact ⟨j, rfl, hb⟩
theorem find_none (h : Rdv w v k S P B xb L) (s p : Int) (hL : L.length ≤ 100000) (hu : lk L s p = none) : Calls Try.prog 41 #[.pointer (some ⟨xb, 0, none⟩), .int .i64 s, .int .i64 p] w fun e w' => e = .returned (.int .i64 (-1)) ∧ Below w.heap.size w w' := by
  refine (find_any h s p hL).mono ?_
  rintro e w' ⟨hb, ⟨_, rfl⟩ | ⟨j, hj, _, _, h1, _⟩⟩
  · exact ⟨rfl, hb⟩
  · rw [h1] at hu; cases hu
theorem refWrite_used (h : Rdv w v k S P B xb L) (s p : Int) (A : Option Addr) (n c : Nat) (hin : 0 ≤ s ∧ s < S ∧ 0 ≤ p ∧ p < P) (hn : ¬ B < n) (hu : (lk L s p).isSome = true) (hL : L.length ≤ 100000) :
    Calls Try.prog 66 #[.pointer (some ⟨xb, 0, none⟩), .int .i64 s, .int .i64 p, .slice A n c] w fun e w' => e = .returned (.int .i64 7) ∧ Below w.heap.size w w' := by
  have hh := has_any h s p
  rw [decide_eq_true hin] at hh
  have hf := find_some h s p hL hu
  obtain ⟨u, Q, -, -, -, c2, -⟩ := h.four
  have hlt2 : decide ((B : Int) < n) = false := decide_eq_false (by omega)
  clear h hin
  go_enter Try.func66, Try.ntmps66
  go_wp2_with (first
    | (go_at_call 64; (with_reducible refine hh.mono ?_); rintro e w1 ⟨rfl, rfl⟩)
    | (go_at_call 41; (with_reducible refine hf.mono ?_); rintro e w2 ⟨j, rfl, hb2⟩))
  go_ret
  exact ⟨rfl, hb2⟩
/-- what a write comes to -/
theorem Rdv.wrote (h : Rdv w v k S P B xb L) (hk : k ≠ 0) {s p : Int} {l : List UInt8} (hin : 0 ≤ s ∧ s < S ∧ 0 ≤ p ∧ p < P) (hl : l.length ≤ B) (hn : lk L s p = none) {u : Value} {Q : List (Pg × Value)}
    (hu : w.heap[xb]? = some (.cells #[.int .i64 S, .int .i64 P, .int .i64 B, u] 75 (0, 0))) (hQ : Q.map Prod.fst = L) (hub : ∀ g, u.ownBlock = some g → v g = k ∧ g ≠ xb) (hdat : ∀ q ∈ Q, Dt w v q.2 (full B q.1.raw))
    {w3 w5 w6 : World} (hb3 : Below w.heap.size w w3) {A : Option Addr} {c : Nat} (hc : B ≤ c) (hbs : Bs w3 w3.heap.size A B (full B l)) (hno : A ≠ none) (hnew : ∀ a, A = some a → w.heap.size ≤ a.block)
    (hb5 : Below w3.heap.size w3 w5) {g n cap : Nat} (hg : w5.grownBy w6 u.ownBlock) (hrow : w6.ownsRow 0 93 4 (.slice (some ⟨g, 0, none⟩) n cap) n (quads (Q ++ [(⟨s, p, l, true⟩, .slice A B c)]))) (hnn : n = L.length + 1) (hat : u.ownBlock = some g ∨ g = w5.heap.size) (hlt : g < w6.heap.size) :
    ∃ v', Rdv (w6.setCell ⟨xb, 3, none⟩ (.slice (some ⟨g, 0, none⟩) n cap)) v' k S P B xb (put s p l L) ∧ Stp k w (w6.setCell ⟨xb, 3, none⟩ (.slice (some ⟨g, 0, none⟩) n cap)) v v' := by
  have hx := h.ltx
  have st3 : Stp k w w3 v v := Stp.below hb3 h.fr
  have t5 : Stp k w3 w5 v v := Stp.below hb5 st3.fresh
  have t6 : Stp k w5 w6 v v := Stp.grown hg (fun q hq => (hub q hq).1) t5.fresh
  obtain ⟨X, hX⟩ : ∃ X, X = Value.slice (some ⟨g, 0, none⟩) n cap := ⟨_, rfl⟩
  rw [← hX]
  have t7 : Stp k w6 (w6.setCell ⟨xb, 3, none⟩ X) v v := Stp.setCell (a := ⟨xb, 3, none⟩) h.vx X t6.fresh
  have st37 : Stp k w3 (w6.setCell ⟨xb, 3, none⟩ X) v v := t5.trans (t6.trans t7)
  have hsz : (w6.setCell ⟨xb, 3, none⟩ X).heap.size = w6.heap.size := by simp [World.setCell]
  have hgv : (v g = k ∧ g ≠ xb) ∨ (w3.heap.size ≤ g) := hat.imp (fun e => hub g e) (fun e => by rw [e]; exact hb5.size)
  have hgx : g ≠ xb := by
    have := hb3.size
    rcases hgv with h1 | h1 <;> omega
  have st38 : Stp k w3 (w6.setCell ⟨xb, 3, none⟩ X) v (paint v g k) := by
    rcases hgv with h1 | h1
    · rw [paint_eq h1.1]; exact st37
    · exact st37.paint k h1 (by rw [hsz]; exact hlt)
  have st8 := st3.trans st38
  refine ⟨paint v g k, ⟨h.shp, h.ok.put hn ⟨hin.1, hin.2.1, hin.2.2.1, hin.2.2.2, hl⟩, st8.fresh, by rw [paint_other (Ne.symm hgx)]; exact h.vx, ⟨X, Q ++ [(⟨s, p, l, true⟩, .slice A B c)], ?_, ?_, ?_, ?_, ?_⟩⟩, st8⟩
  · have e3 : w3.heap[xb]? = w.heap[xb]? := hb3.block xb hx
    have e5 : w5.heap[xb]? = w3.heap[xb]? := hb5.block xb (Nat.lt_of_lt_of_le hx st3.size)
    have e6 : w6.heap[xb]? = w5.heap[xb]? := hg.block xb (Nat.lt_of_lt_of_le hx (Nat.le_trans st3.size hb5.size)) (by intro e; exact (hub xb e.symm).2 rfl)
    have e : w6.heap[xb]? = some (.cells #[.int .i64 S, .int .i64 P, .int .i64 B, u] 75 (0, 0)) := by rw [e6, e5, e3]; exact hu
    simp [World.setCell, Array.getElem?_modify, e]
  · rw [List.map_append, hQ]
    rfl
  · have e : (put s p l L).length = n := by rw [hnn]; simp [put]
    rw [e, hX]
    refine hrow.kept (row := some xb) ⟨rfl, rfl, rfl, by simp [World.setCell], fun i _ hi => Below.heap_setCell w6 _ _ i fun e => hi (by rw [e])⟩ (.inr ?_)
    show some g ≠ some xb
    simpa using hgx
  · intro q hq
    rw [hX] at hq
    injection hq with hq
    subst hq
    exact ⟨paint_same _ _ _, hgx⟩
  · intro q hq
    rcases List.mem_append.1 hq with hq | hq
    · exact (hdat q hq).stp st8 hk
    · simp only [List.mem_singleton] at hq
      subst hq
      have hd3 : Dt w3 v (.slice A (full B l).length c) (full B l) := Dt.made h.fr (by rw [full_length]; exact hc) (by rw [full_length]; exact hbs) (fun e => absurd e hno) (fun _ => hnew)
      have := hd3.stp st38 hk
      rw [full_length] at this
      exact this
/-- it is written -/
def RefWroteTo (k S P B xb : Nat) (L : List Pg) (w : World) (v : Nat → Nat) (e : Ending) (w' : World) : Prop :=
  e = .returned (.int .i64 0) ∧ ∃ v', Rdv w' v' k S P B xb L ∧ Stp k w w' v v'
set_option maxHeartbeats 4000000 in
theorem refWrite_ok (h : Rdv w v k S P B xb L) (hk : k ≠ 0) (s p : Int) (A : Option Addr) (n c : Nat) (l : List UInt8) (hx : Bs w w.heap.size A n l) (hin : 0 ≤ s ∧ s < S ∧ 0 ≤ p ∧ p < P) (hn : l.length ≤ B) (hu : lk L s p = none) (hL : L.length ≤ 100000) :
    Calls Try.prog 66 #[.pointer (some ⟨xb, 0, none⟩), .int .i64 s, .int .i64 p, .slice A n c] w (RefWroteTo k S P B xb (put s p l L) w v) := by
  obtain ⟨i0, hi, hz, hsz, hby⟩ := info_parts page_info
  have HI := Lib.hid hi
  have HZ := Lib.hid hz
  have HSZ := Lib.hid hsz
  have HBY := Lib.hid hby
  clear hi hz hsz hby
  have hnl : n = l.length := hx.1.symm
  have hb256 := h.shp.b2
  have hb16 := h.shp.b1
  have hlt2 : decide ((B : Int) < n) = false := decide_eq_false (by omega)
  have hn1 : n ≤ 100000 := by omega
  have hlt : ¬ (B : Int) < n := by omega
  clear hnl
  have hh := has_any h s p
  rw [decide_eq_true hin] at hh
  have hf := find_none h s p hL hu
  obtain ⟨U, Q, hcell, -, -, c2, -, -, hQ, hown, hub, hdat⟩ := h.four
  obtain ⟨AU, nU, cU, rfl⟩ := own_slice9 hown
  have HD := Lib.hid h
  have HX := Lib.hid hx
  have HU := Lib.hid hcell
  have HUB := Lib.hid hub
  have HO := Lib.hid hown
  have HQ := Lib.hid hQ
  have HDAT := Lib.hid hdat
  have HIN := Lib.hid hin
  have HC : Hid (∀ W, Below w.heap.size w W → W.cell? ⟨xb, 3, none⟩ = some (.slice AU nU cU) ∧ W.frozen? ⟨xb, 3, none⟩ = false ∧ xb < W.heap.size ∧ W.heap[xb]? = some (.cells #[.int .i64 S, .int .i64 P, .int .i64 B, .slice AU nU cU] 75 (0, 0))) := Lib.hid fun W hb => by
    have hd := HD.out.ltx
    have h1 := (hb.block xb hd).trans HU.out
    refine ⟨?_, ?_, Nat.lt_of_lt_of_le hd hb.size, h1⟩ <;> simp [World.cell?, World.frozen?, h1]
  obtain ⟨N, hN⟩ : ∃ N, N = L.length := ⟨_, rfl⟩
  rw [← hN] at HO hL
  have HN := Lib.hid hN
  have HUN : Hid (∀ g, (Value.slice AU nU cU).ownBlock = some g → g ≠ xb) := Lib.hid fun g hg => (HUB.out g hg).2
  clear h hin hx hcell hub hown hQ hdat hN
  go_enter Try.func66, Try.ntmps66
  go_wp2_with (first
    | (go_at_call 64; (with_reducible refine hh.mono ?_); rintro e w1 ⟨rfl, rfl⟩)
    | (go_at_call 41; (with_reducible refine hf.mono ?_); rintro e w2 ⟨rfl, hb2⟩))
  have HB2 := Lib.hid hb2.drew
  have cfull := full_at (HC.out _ HB2.out).2.2.2 A n c l ((HX.out.below HB2.out).mono HB2.out.size) (by omega) hb256 (by omega)
  have c3 : w2.cell? ⟨xb, 3, none⟩ = some (.slice AU nU cU) := (HC.out _ HB2.out).1
  clear hb2 hh hf c2
  go_region_law (first
    | (refine step_append_lies _ (by rfl) _ _ _ (by rfl) 0 93 i0 _ 4 48 Try.underlying73 HI.out HZ.out HSZ.out HBY.out rfl (by omega) (.slice AU nU cU) N (quads Q) (by rfl) (HO3.out.alloc _) ⟨w3.heap.size, 0, none⟩ 1 1 [.int .i64 s, .int .i64 p, .slice A3 B n3, .bool true] (by rfl) (by rfl) (World.news_of_block (cs := #[.int .i64 s, .int .i64 p, .slice A3 B n3, .bool true]) (t := 93) (fr := (0, 0)) (heap_alloc_new w3 _)) (by simp [Value.oneCell']) (by omega) (by unfold maxLen; omega) (by omega) (by omega) (w3.heap.size + 1) (by simp) ?_; intro g cap w6 hown6 hgrow6 hat6 hlt6; have c6 : w6.cell? ⟨xb, 3, none⟩ = some (.slice AU nU cU) := hgrow6.cell HC5.out.1 (fun e => HUN.out xb e.symm rfl); have f6 : w6.frozen? ⟨xb, 3, none⟩ = false := (hgrow6.frozen_far ⟨xb, 3, none⟩ HC5.out.2.2 (fun e => HUN.out xb e.symm rfl)).trans HC5.out.2.1; have HO6 := Lib.hid hown6; have HG6 := Lib.hid hgrow6; have HA6 := Lib.hid hat6; have HL6 := Lib.hid hlt6; clear hown6 hgrow6 hat6 hlt6)
    | (go_simp; go_at_call 55; (with_reducible refine cfull.mono ?_); rintro e w3 ⟨A3, n3, rfl, hn3, hs3, ho3, hw3, hb3⟩; have HB3 := Lib.hid (HB2.out.trans (hb3.mono HB2.out.size)); have HS3 := Lib.hid hs3; have c3' : w3.cell? ⟨xb, 3, none⟩ = some (.slice AU nU cU) := (HC.out _ HB3.out).1; have HO3 := Lib.hid (HO.out.kept (row := none) (w' := w3) ⟨HB3.out.os, HB3.out.tape, HB3.out.output, HB3.out.size, fun i hi _ => HB3.out.block i hi⟩ (Classical.em _)); have hbx := below_new4 w3 (.cells #[.int .i64 s, .int .i64 p, .slice A3 B n3, .bool true] 93); have hC3 := HC.out _ HB3.out; have hx3 : xb < w3.heap.size := hC3.2.2.1; have HC5 := Lib.hid (And.intro ((hbx.cell (p := ⟨xb, 3, none⟩) hC3.2.2.1).trans hC3.1) (And.intro ((hbx.frozen (p := ⟨xb, 3, none⟩) hC3.2.2.1).trans hC3.2.1) (Nat.lt_of_lt_of_le hC3.2.2.1 hbx.size))); clear hs3 hb3 hbx hC3))
  all_goals
    go_wp2
    go_ret
    refine ⟨rfl, ?_⟩
    exact HD.out.wrote hk HIN.out hn hu HU.out HQ.out HUB.out HDAT.out HB3.out hn3 HS3.out ho3 (fun a ha => Nat.le_trans HB2.out.size (hw3 a ha)) (below_new4 w3 _) HG6.out (by have := HO6.out; rw [show ([.int .i64 s, .int .i64 p, .slice A3 B n3, .bool true] : List Value) = quads [((⟨s, p, l, true⟩ : Pg), Value.slice A3 B n3)] from rfl, quads_append] at this; exact this) (by rw [HN.out]) (HA6.out.imp id (fun e => by rw [e]; simp)) HL6.out
end
end Go.Proofs.YtndbjdnfibpicaaR
