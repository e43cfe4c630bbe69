/-
  The program's device: Write.
-/
import Derived.Test.YtndbjdnfibpicaaRFlashRead
import Derived.Deep.RegionHeld3
import Derived.Deep.AppendLies
import Derived.Deep.RegionLaw
import Derived.Test.YtndbjdnfibpicaaRMCells
import Derived.Test.YtndbjdnfibpicaaRMBytes
namespace Go.Proofs.YtndbjdnfibpicaaR
open Go.ChangeShapes Go.WideShapes Go.ChangeAt Go.RowKit Fl
set_option maxRecDepth 100000

/-- what Write answers -/
def wcode (S P B : Nat) (L : List Pg) (s p : Int) (n : Nat) : Int := if 0 ≤ s ∧ s < S ∧ 0 ≤ p ∧ p < P then (if B < n then 10 else if (lk L s p).isSome then 7 else 0) else 6
section
variable {k S P B db mb : Nat} {w : World} {v : Nat → Nat} {L : List Pg}
theorem write_nil (s p : Int) (x : Value) (w : World) : Calls Try.prog 78 #[.pointer none, .int .i64 s, .int .i64 p, x] w fun e w' => e = .returned (.int .i64 2) ∧ Below w.heap.size w w' := by
  have hp := place_nil s p w
  go_enter Try.func78, Try.ntmps78
  go_wp2_with (go_at_call 45; (with_reducible refine hp.mono ?_); rintro e w1 ⟨rfl, hb1⟩; unfold kv)
  go_ret
  exact ⟨rfl, hb1.alloc hb1.size _⟩
theorem write_out (h : Dev w v k S P B db mb L) (s p : Int) (x : Value) (hin : ¬ (0 ≤ s ∧ s < S ∧ 0 ≤ p ∧ p < P)) :
    Calls Try.prog 78 #[.pointer (some ⟨db, 0, none⟩), .int .i64 s, .int .i64 p, x] w fun e w' => e = .returned (.int .i64 6) ∧ Below w.heap.size w w' := by
  have hpl := place_any h s p
  unfold PlaceTo at hpl
  simp only [if_neg hin] at hpl
  clear h hin
  go_enter Try.func78, Try.ntmps78
  go_wp2_with (go_at_call 45; (with_reducible refine hpl.mono ?_); rintro e w1 ⟨rfl, hb1⟩; unfold kv)
  go_ret
  exact ⟨rfl, hb1.alloc hb1.size _⟩
theorem write_long (h : Dev w v k S P B db mb L) (s p : Int) (A : Option Addr) (n c : Nat) (hin : 0 ≤ s ∧ s < S ∧ 0 ≤ p ∧ p < P) (hn : B < n) :
    Calls Try.prog 78 #[.pointer (some ⟨db, 0, none⟩), .int .i64 s, .int .i64 p, .slice A n c] w fun e w' => e = .returned (.int .i64 10) ∧ Below w.heap.size w w' := by
  have hpl := place_any h s p
  unfold PlaceTo at hpl
  simp only [if_pos hin] at hpl
  have HD := Lib.hid h
  have hlt : (B : Int) < n := by omega
  clear h hin
  go_enter Try.func78, Try.ntmps78
  go_wp2_with (go_at_call 45; (with_reducible refine hpl.mono ?_); rintro e w1 ⟨rfl, hb1⟩; unfold kv; have hb2 := (hb1.alloc hb1.size (.cells #[.int .i64 s, .int .i64 p] 51)); obtain ⟨_, _, _, _, c2, _⟩ := (HD.out.below hb2).five)
  go_ret
  exact ⟨rfl, hb1.alloc hb1.size _⟩
theorem write_used (h : Dev w v k S P B db mb L) (s p : Int) (hs : W64 s) (hp : W64 p) (A : Option Addr) (n c : Nat) (hin : 0 ≤ s ∧ s < S ∧ 0 ≤ p ∧ p < P) (hn : ¬ B < n) (hu : (lk L s p).isSome = true) :
    Calls Try.prog 78 #[.pointer (some ⟨db, 0, none⟩), .int .i64 s, .int .i64 p, .slice A n c] w fun e w' => e = .returned (.int .i64 7) ∧ Below w.heap.size w w' := by
  have hpl := place_any h s p
  unfold PlaceTo at hpl
  simp only [if_pos hin] at hpl
  have HD := Lib.hid h
  have hlt : ¬ (B : Int) < n := by omega
  have hlt2 : decide ((B : Int) < n) = false := decide_eq_false hlt
  have cu := fun W (hb : Below w.heap.size w W) => used_any (h.below hb) s p hs hp
  rw [hu] at cu
  clear h hin
  go_enter Try.func78, Try.ntmps78
  go_wp2_with (first
    | (go_at_call 45; (with_reducible refine hpl.mono ?_); rintro e w1 ⟨rfl, hb1⟩; unfold kv; have hb2 := (hb1.alloc hb1.size (.cells #[.int .i64 s, .int .i64 p] 51)); obtain ⟨_, _, _, _, c2, _⟩ := (HD.out.below hb2).five)
    | (go_at_call 40; (with_reducible refine (cu _ hb2).mono ?_); rintro e w2 ⟨rfl, hb3⟩))
  go_ret
  exact ⟨rfl, hb2.trans (hb3.mono hb2.size)⟩
theorem paint_eq {g : Nat} (h : v g = k) : paint v g k = v := by
  funext i
  unfold paint
  split
  · rename_i e; rw [e, h]
  · rfl
theorem heap_five4 {w : World} {a0 a1 a2 a3 u u' : Value} {T : TypeId} (h : w.heap[db]? = some (.cells #[a0, a1, a2, a3, u] T (0, 0))) : (w.setCell ⟨db, 4, none⟩ u').heap[db]? = some (.cells #[a0, a1, a2, a3, u'] T (0, 0)) := by
  simp [World.setCell, Array.getElem?_modify, h]
/-- what a write comes to -/
theorem Dev.wrote (h : Dev w v k S P B db mb L) (hk : k ≠ 0) {s p : Int} {l : List UInt8} (hin : 0 ≤ s ∧ s < S ∧ 0 ≤ p ∧ p < P) (hl : l.length ≤ B) (hn : lk L s p = none)
    {f : Int → Int → Option Value} (hf : ∀ s p, (lk L s p = none ∧ f s p = none) ∨ ∃ r x, lk L s p = some r ∧ f s p = some x ∧ Dt w v x r)
    {u : Value} (hu : w.heap[db]? = some (.cells #[.int .i64 S, .int .i64 P, .int .i64 B, .map (some mb), u] 60 (0, 0))) (hub : ∀ g, u.ownBlock = some g → v g = k ∧ g ≠ db ∧ g ≠ mb)
    {w3 w4 w5 w6 : World} (hb3 : Below w.heap.size w w3) {A : Option Addr} {c : Nat} (hc : l.length ≤ c) (hbs : Bs w3 w3.heap.size A l.length l) (hno : A = none → c = 0) (hnew : ∀ a, A = some a → w.heap.size ≤ a.block)
    (ht : w3.mapTurned w4 mb) (hm : Mp w4 mb (L.length + 1) (upd f s p (some (.slice A l.length c)))) (hb5 : Below w4.heap.size w4 w5)
    {g n cap : Nat} (hg : w5.grownBy w6 u.ownBlock) (hrow : w6.ownsRow 0 51 2 (.slice (some ⟨g, 0, none⟩) n cap) n (duos (dirt L ++ [(s, p)]))) (hnn : n = (dirt L).length + 1) (hat : u.ownBlock = some g ∨ g = w5.heap.size) (hlt : g < w6.heap.size) :
    ∃ v', Dev (w6.setCell ⟨db, 4, none⟩ (.slice (some ⟨g, 0, none⟩) n cap)) v' k S P B db mb (put s p l L) ∧ Stp k w (w6.setCell ⟨db, 4, none⟩ (.slice (some ⟨g, 0, none⟩) n cap)) v v' := by
  have hd := h.ltd
  have hmlt := h.ltm
  have st3 : Stp k w w3 v v := Stp.below hb3 h.fr
  have st4 : Stp k w w4 v v := st3.trans (Stp.turned ht h.vm st3.fresh)
  have st5 : Stp k w w5 v v := st4.trans (Stp.below hb5 st4.fresh)
  have st6 : Stp k w w6 v v := st5.trans (Stp.grown hg (fun q hq => (hub q hq).1) st5.fresh)
  obtain ⟨X, hX⟩ : ∃ X, X = Value.slice (some ⟨g, 0, none⟩) n cap := ⟨_, rfl⟩
  rw [← hX]
  have st7 : Stp k w (w6.setCell ⟨db, 4, none⟩ X) v v := st6.trans (Stp.setCell (a := ⟨db, 4, none⟩) h.vd X st6.fresh)
  -- where the row lies
  have hgv : (v g = k ∧ g ≠ db ∧ g ≠ mb) ∨ (w.heap.size ≤ g) := hat.imp (fun e => hub g e) (fun e => by rw [e]; exact st5.size)
  have hgd : g ≠ db := by rcases hgv with h1 | h1 <;> omega
  have hgm : g ≠ mb := by rcases hgv with h1 | h1 <;> omega
  have hsz : (w6.setCell ⟨db, 4, none⟩ X).heap.size = w6.heap.size := by simp [World.setCell]
  have st8 : Stp k w (w6.setCell ⟨db, 4, none⟩ X) v (paint v g k) := by
    rcases hgv with h1 | h1
    · rw [paint_eq h1.1]; exact st7
    · exact st7.paint k h1 (by rw [hsz]; exact hlt)
  have hdk : paint v g k db = k := by rw [paint_other (Ne.symm hgd)]; exact h.vd
  have hmk : paint v g k mb = k := by rw [paint_other (Ne.symm hgm)]; exact h.vm
  refine ⟨paint v g k, ⟨h.shp, h.ok.put hn ⟨hin.1, hin.2.1, hin.2.2.1, hin.2.2.2, hl⟩, st8.fresh, hdk, hmk, h.ne, ⟨X, ?_, ?_, ?_⟩, ?_⟩, st8⟩
  · have e3 : w3.heap[db]? = w.heap[db]? := hb3.block db hd
    have e4 : w4.heap[db]? = w3.heap[db]? := ht.grown.block db (Nat.lt_of_lt_of_le hd st3.size) (by intro e; injection e with e; exact h.ne e.symm)
    have e5 : w5.heap[db]? = w4.heap[db]? := hb5.block db (Nat.lt_of_lt_of_le hd st4.size)
    have e6 : w6.heap[db]? = w5.heap[db]? := hg.block db (Nat.lt_of_lt_of_le hd st5.size) (by intro e; exact (hub db e.symm).2.1 rfl)
    exact heap_five4 (by rw [e6, e5, e4, e3]; exact hu)
  · have e : (dirt (put s p l L)).length = n := by rw [dirt_put, List.length_append, hnn]; rfl
    rw [e, dirt_put, hX]
    refine hrow.kept (row := some db) ⟨rfl, rfl, rfl, by simp [World.setCell], fun i _ hi => Below.heap_setCell w6 _ _ i fun e => hi (by rw [e])⟩ (.inr ?_)
    show some g ≠ some db
    simpa using hgd
  · intro q hq
    rw [hX] at hq
    injection hq with hq
    subst hq
    exact ⟨paint_same _ _ _, hgd, hgm⟩
  · have hrow5 : some mb ≠ u.ownBlock := fun e => (hub mb e.symm).2.2 rfl
    have m5 : Mp w5 mb (L.length + 1) (upd f s p (some (.slice A l.length c))) := hm.kept (row := none) ⟨hb5.os, hb5.tape, hb5.output, hb5.size, fun i hi _ => hb5.block i hi⟩ (by simp)
    have m6 := m5.kept hg hrow5
    have m7 : Mp (w6.setCell ⟨db, 4, none⟩ X) mb (L.length + 1) (upd f s p (some (.slice A l.length c))) :=
      m6.kept (row := some db) ⟨rfl, rfl, rfl, by simp [World.setCell], fun i _ hi => Below.heap_setCell w6 _ _ i fun e => hi (by rw [e])⟩ (by simpa using h.ne)
    have hlen : (put s p l L).length = L.length + 1 := by simp [put]
    refine ⟨_, by rw [hlen]; exact m7, fun s2 p2 => ?_⟩
    rw [lk_put l hn]
    unfold upd
    by_cases e : s2 = s ∧ p2 = p
    · rw [if_pos e, if_pos e]
      refine .inr ⟨_, _, rfl, rfl, ?_⟩
      have hd3 : Dt w3 v (.slice A l.length c) l := Dt.made h.fr hc hbs hno (fun _ => hnew)
      have st37 : Stp k w3 (w6.setCell ⟨db, 4, none⟩ X) v v :=
        (((Stp.turned ht h.vm st3.fresh).trans (Stp.below hb5 st4.fresh)).trans (Stp.grown hg (fun q hq => (hub q hq).1) st5.fresh)).trans (Stp.setCell (a := ⟨db, 4, none⟩) h.vd X st6.fresh)
      have st38 : Stp k w3 (w6.setCell ⟨db, 4, none⟩ X) v (paint v g k) := by
        rcases hat with h1 | h1
        · rw [paint_eq (hub g h1).1]; exact st37
        · exact st37.paint k (by rw [h1]; exact Nat.le_trans ht.grown.size hb5.size) (by rw [hsz]; exact hlt)
      exact hd3.stp st38 hk
    · rw [if_neg e, if_neg e]
      rcases hf s2 p2 with h1 | ⟨r, x, h1, h2, h3⟩
      · exact .inl h1
      · exact .inr ⟨r, x, h1, h2, h3.stp st8 hk⟩
/-- it is written -/
def WroteTo (k S P B db mb : Nat) (L : List Pg) (w : World) (v : Nat → Nat) (e : Ending) (w' : World) : Prop :=
  e = .returned (.int .i64 0) ∧ ∃ v', Dev w' v' k S P B db mb L ∧ Stp k w w' v v'
set_option maxHeartbeats 4000000 in
theorem write_ok (h : Dev w v k S P B db mb L) (hk : k ≠ 0) (s p : Int) (hs : W64 s) (hp : W64 p) (A : Option Addr) (n c : Nat) (l : List UInt8) (hx : Sl w (.slice A n c) l) (hin : 0 ≤ s ∧ s < S ∧ 0 ≤ p ∧ p < P) (hn : l.length ≤ B) (hu : lk L s p = none) (hL : L.length ≤ 100000) :
    Calls Try.prog 78 #[.pointer (some ⟨db, 0, none⟩), .int .i64 s, .int .i64 p, .slice A n c] w (WroteTo k S P B db mb (put s p l L) w v) := by
  obtain ⟨i0, hi, hz, hsz, hby⟩ := info_parts addr_info
  have HI := Lib.hid hi
  have HZ := Lib.hid hz
  have HSZ := Lib.hid hsz
  have HBY := Lib.hid hby
  clear hi hz hsz hby
  have hnl : n = l.length := by
    obtain ⟨A', c', e, _⟩ := hx
    injection e
  have hb256 := h.shp.b2
  have hlt : ¬ (B : Int) < n := by omega
  have hlt2 : decide ((B : Int) < n) = false := decide_eq_false hlt
  have hpl := place_any h s p
  unfold PlaceTo at hpl
  simp only [if_pos hin] at hpl
  have cu := fun W (hb : Below w.heap.size w W) => used_any (h.below hb) s p hs hp
  rw [hu] at cu
  obtain ⟨u, hcell, _, _, _, _, _, _, hown, hub⟩ := h.five
  obtain ⟨f, hf1, hf2⟩ := h.map
  have hfn : f s p = none := by
    rcases hf2 s p with ⟨_, e⟩ | ⟨r, x, e, _⟩
    · exact e
    · rw [hu] at e; cases e
  have HD := Lib.hid h
  have HX := Lib.hid hx
  have HU := Lib.hid hcell
  have HUB := Lib.hid hub
  have HF1 := Lib.hid hf1
  have HF2 := Lib.hid hf2
  have HO := Lib.hid hown
  have HDL : Hid ((dirt L).length ≤ 100000) := Lib.hid (Nat.le_trans (dirt_length L) hL)
  have HC : Hid (∀ W, Below w.heap.size w W → W.cell? ⟨db, 2, none⟩ = some (.int .i64 B) ∧ W.cell? ⟨db, 3, none⟩ = some (.map (some mb)) ∧ W.cell? ⟨db, 4, none⟩ = some u) := Lib.hid fun W hb => by
    have hd := HD.out.ltd
    refine ⟨?_, ?_, ?_⟩ <;> rw [hb.cell hd] <;> simp [World.cell?, HU.out]
  have hdlt := h.ltd
  clear h hnl hx hcell hub hf1 hf2 hown
  have HIN := Lib.hid hin
  clear hin
  go_enter Try.func78, Try.ntmps78
  go_wp2_with (first
    | (go_at_call 45; (with_reducible refine hpl.mono ?_); rintro e w1 ⟨rfl, hb1⟩; unfold kv; have hb2 := (hb1.alloc hb1.size (.cells #[.int .i64 s, .int .i64 p] 51)); have c2 := (HC.out _ hb2).1)
    | (go_at_call 40; (with_reducible refine (cu _ hb2).mono ?_); rintro e w2 ⟨rfl, hb3⟩))
  have HB2 := Lib.hid (hb2.trans (hb3.mono hb2.size))
  obtain ⟨hl9, t0, t1⟩ := (Two.new w1 (.int .i64 s) (.int .i64 p) 51).below hb3
  obtain ⟨_, c3, c4⟩ := HC.out _ HB2.out
  have HQM : Hid (w1.heap.size ≠ mb) := Lib.hid (by have h1 := HD.out.ltm; have h2 := hb1.size; omega)
  have HDM : Hid (mb ≠ db) := Lib.hid HD.out.ne
  generalize w1.heap.size = q at *
  clear hb1 hb2 hb3 c2
  have HB2D := Lib.hid HB2.out.drew
  have cc := cloneBytes_any (HX.out.below HB2D.out) (show l.length ≤ 100000 by omega)
  have HP0 : Hid (w2.drew.cell? ⟨db, 3, none⟩ = some (.map (some mb)) ∧ w2.drew.cell? ⟨q, 0, none⟩ = some (.int .i64 s) ∧ w2.drew.cell? ⟨q, 1, none⟩ = some (.int .i64 p)) := Lib.hid ⟨c3, t0, t1⟩
  have hdq : db < w2.heap.size := Nat.lt_of_lt_of_le hdlt HB2.out.size
  have HML : Hid (mb < w2.heap.size) := Lib.hid (Nat.lt_of_lt_of_le HD.out.ltm HB2.out.size)
  go_region_held3 (fun W => W.cell? ⟨db, 3, none⟩ = some (.map (some mb)) ∧ W.cell? ⟨q, 0, none⟩ = some (.int .i64 s) ∧ W.cell? ⟨q, 1, none⟩ = some (.int .i64 p))
    (first | exact HP0.out | exact HP1.out | exact HP2.out)
    ((first
      | (go_at_call 83; (with_reducible refine cc.mono ?_); rintro e w3 ⟨A3, n3, rfl, hn3, hs3, ho3, hw3, hb3⟩
         have HB3 := Lib.hid (HB2D.out.trans (hb3.mono HB2D.out.size))
         have HS3 := Lib.hid hs3
         have HP1 : Hid (w3.cell? ⟨db, 3, none⟩ = some (.map (some mb)) ∧ w3.cell? ⟨q, 0, none⟩ = some (.int .i64 s) ∧ w3.cell? ⟨q, 1, none⟩ = some (.int .i64 p)) := Lib.hid ⟨(hb3.cell (p := ⟨db, 3, none⟩) hdq).trans c3, (hb3.cell (p := ⟨q, 0, none⟩) hl9).trans t0, (hb3.cell (p := ⟨q, 1, none⟩) hl9).trans t1⟩
         have HM3 : Hid (Mp w3 mb L.length f) := Lib.hid (HF1.out.kept (row := none) ⟨HB3.out.os, HB3.out.tape, HB3.out.output, HB3.out.size, fun i hi _ => HB3.out.block i hi⟩ (by simp))
         obtain ⟨w4, hrun4, ht4, hm4⟩ := HM3.out.store hs hp (by unfold maxLen; omega) (.slice A3 l.length n3)
         rw [hfn] at hm4
         unfold kv at hrun4
         have hg4 := ht4.grown
         have HP2 : Hid (w4.cell? ⟨db, 3, none⟩ = some (.map (some mb)) ∧ w4.cell? ⟨q, 0, none⟩ = some (.int .i64 s) ∧ w4.cell? ⟨q, 1, none⟩ = some (.int .i64 p)) := Lib.hid ⟨(hg4.cell HP1.out.1 (by simpa using HDM.out.symm)), hg4.cell HP1.out.2.1 (by simpa using HQM.out), hg4.cell HP1.out.2.2 (by simpa using HQM.out)⟩
         have HT4 := Lib.hid ht4
         have HM4 := Lib.hid hm4
         have HO4 : Hid (w4.ownsRow 0 51 2 u (dirt L).length (duos (dirt L))) := Lib.hid ((HO.out.kept (row := none) ⟨HB3.out.os, HB3.out.tape, HB3.out.output, HB3.out.size, fun i hi _ => HB3.out.block i hi⟩ (Classical.em _)).kept hg4 (.inr fun e => (HUB.out mb e).2.2 rfl))
         have HC4 : Hid (w4.cell? ⟨db, 4, none⟩ = some u ∧ w4.frozen? ⟨db, 4, none⟩ = false ∧ db < w4.heap.size) := Lib.hid ⟨hg4.cell (HC.out _ HB3.out).2.2 (by simpa using HDM.out.symm), (hg4.frozen_far ⟨db, 4, none⟩ (Nat.lt_of_lt_of_le hdlt HB3.out.size) (by simpa using HDM.out.symm)).trans ((HB3.out.frozen (p := ⟨db, 4, none⟩) hdlt).trans (by simp [World.frozen?, HU.out])), Nat.lt_of_lt_of_le hdlt (Nat.le_trans HB3.out.size hg4.size)⟩
         have HQ4 : Hid (q < w4.heap.size) := Lib.hid (Nat.lt_of_lt_of_le hl9 (Nat.le_trans hb3.size hg4.size))
         clear hs3 hb3 ht4 hm4 hg4)))
  obtain ⟨k3, k0, k1⟩ := HP2.out
  obtain ⟨c4', f4', hd4⟩ := HC4.out
  have hq4 := HQ4.out
  have HUN : Hid (∀ g, u.ownBlock = some g → g ≠ db) := Lib.hid fun g hg => (HUB.out g hg).2.1
  have hdl := HDL.out
  have HC5 : Hid ((w4.alloc (.cells #[.int .i64 s, .int .i64 p] 51)).drew.cell? ⟨db, 4, none⟩ = some u ∧ (w4.alloc (.cells #[.int .i64 s, .int .i64 p] 51)).drew.frozen? ⟨db, 4, none⟩ = false ∧ db < (w4.alloc (.cells #[.int .i64 s, .int .i64 p] 51)).drew.heap.size) := Lib.hid (by
    have hb := (below_new4 w4 (.cells #[.int .i64 s, .int .i64 p] 51)).drew
    exact ⟨(hb.cell (p := ⟨db, 4, none⟩) hd4).trans c4', (hb.frozen (p := ⟨db, 4, none⟩) hd4).trans f4', Nat.lt_of_lt_of_le hd4 hb.size⟩)
  clear c3 t0 t1 c4 hl9 hdq cc
  go_wp2
  go_region_law (refine step_append_lies _ (by rfl) _ _ _ (by rfl) 0 51 i0 _ 2 16 Try.underlying58 HI.out HZ.out HSZ.out HBY.out rfl (by omega) u (dirt L).length (duos (dirt L)) (by rfl) ((HO4.out.alloc _).drew) ⟨w4.heap.size, 0, none⟩ 1 1 [.int .i64 s, .int .i64 p] (by rfl) (by rfl) (World.news_of_block (cs := #[.int .i64 s, .int .i64 p]) (t := 51) (fr := (0, 0)) (heap_alloc_new w4 _)) (by simp [Value.oneCell']) (by omega) (by unfold maxLen; omega) (by omega) (by omega) (w4.heap.size + 1) (by simp) ?_; intro g cap w6 hown6 hgrow6 hat6 hlt6; have c6 : w6.cell? ⟨db, 4, none⟩ = some u := hgrow6.cell HC5.out.1 (fun e => HUN.out db e.symm rfl); have f6 : w6.frozen? ⟨db, 4, none⟩ = false := (hgrow6.frozen_far ⟨db, 4, none⟩ HC5.out.2.2 (fun e => HUN.out db e.symm rfl)).trans HC5.out.2.1; have HO6 := Lib.hid hown6; have HG6 := Lib.hid hgrow6; have HA6 := Lib.hid hat6; have HL6 := Lib.hid hlt6; clear hown6 hgrow6 hat6 hlt6)
  all_goals
    go_wp2
    go_ret
    have hb45 : Below w4.heap.size w4 (w4.alloc (.cells #[.int .i64 s, .int .i64 p] 51)).drew := (below_new4 w4 _).drew
    refine ⟨rfl, ?_⟩
    exact HD.out.wrote hk HIN.out hn hu HF2.out HU.out HUB.out HB3.out hn3 HS3.out ho3 (fun a ha => Nat.le_trans HB2.out.size (hw3 a ha)) HT4.out (by simpa using HM4.out) hb45 HG6.out (by have := HO6.out; rw [show ([.int .i64 s, .int .i64 p] : List Value) = duos [(s, p)] from rfl, duos_append] at this; exact this) rfl (HA6.out.imp id (fun e => by rw [e]; simp)) HL6.out
end
end Go.Proofs.YtndbjdnfibpicaaR
