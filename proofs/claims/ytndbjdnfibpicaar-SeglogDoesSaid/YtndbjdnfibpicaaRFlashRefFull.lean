/-
  The document's device: Shape, Has, Full.
-/
import Derived.Test.YtndbjdnfibpicaaRFlashClone
import Derived.Test.YtndbjdnfibpicaaRFlashSmall
import Derived.Test.YtndbjdnfibpicaaRMCells
namespace Go.Proofs.YtndbjdnfibpicaaR
open Go.ChangeShapes Go.WideShapes Go.ChangeAt Go.RowKit Fl
set_option maxRecDepth 100000

theorem refShape_any (s p b : Int) (w : World) : Calls Try.prog 18 #[.agg #[.int .i64 s, .int .i64 p, .int .i64 b]] w fun e w' => e = .returned (.bool (shpB s p b)) ∧ Below w.heap.size w w' := by
  have hb := below_new4 w (.cells #[.int .i64 s, .int .i64 p, .int .i64 b] 23)
  have key : ∀ r, r = shpB s p b → (Calls Try.prog 18 #[.agg #[.int .i64 s, .int .i64 p, .int .i64 b]] w fun e w' => e = .returned (.bool r) ∧ Below w.heap.size w w') := by
    intro r hr
    unfold shpB at hr
    have ce : ∀ x y : Int, (x ≤ y ∧ decide (x ≤ y) = true) ∨ (¬ x ≤ y ∧ decide (x ≤ y) = false) := fun x y => by
      by_cases h : x ≤ y
      · exact .inl ⟨h, decide_eq_true h⟩
      · exact .inr ⟨h, decide_eq_false h⟩
    by_cases h1 : 1 ≤ s
    · have d1 : decide (1 ≤ s) = true := decide_eq_true h1
      by_cases h2 : s ≤ 16
      · have d2 : decide (s ≤ 16) = true := decide_eq_true h2
        by_cases h3 : 1 ≤ p
        · have d3 : decide (1 ≤ p) = true := decide_eq_true h3
          by_cases h4 : p ≤ 64
          · have d4 : decide (p ≤ 64) = true := decide_eq_true h4
            by_cases h5 : 16 ≤ b
            · have d5 : decide (16 ≤ b) = true := decide_eq_true h5
              have hr2 : r = decide (b ≤ 256) := by rw [hr, decide_eq_true ⟨h1, h2⟩, decide_eq_true ⟨h3, h4⟩]; simp [h5]
              rw [hr2]
              clear h1 h2 h3 h4 h5 hr hr2 ce
              go_enter Try.func18, Try.ntmps18
              go_wp2
              go_ret
              exact ⟨rfl, hb⟩
            · have d5 : decide (16 ≤ b) = false := decide_eq_false h5
              obtain rfl : r = false := by rw [hr]; simp [h5]
              clear h1 h2 h3 h4 h5 hr ce
              go_enter Try.func18, Try.ntmps18
              go_wp2
              go_ret
              exact ⟨rfl, hb⟩
          · have d4 : decide (p ≤ 64) = false := decide_eq_false h4
            obtain rfl : r = false := by rw [hr]; simp [h4]
            clear h1 h2 h3 h4 hr ce
            go_enter Try.func18, Try.ntmps18
            go_wp2
            go_ret
            exact ⟨rfl, hb⟩
        · have d3 : decide (1 ≤ p) = false := decide_eq_false h3
          obtain rfl : r = false := by rw [hr]; simp [h3]
          clear h1 h2 h3 hr ce
          go_enter Try.func18, Try.ntmps18
          go_wp2
          go_ret
          exact ⟨rfl, hb⟩
      · have d2 : decide (s ≤ 16) = false := decide_eq_false h2
        obtain rfl : r = false := by rw [hr]; simp [h2]
        clear h1 h2 hr ce
        go_enter Try.func18, Try.ntmps18
        go_wp2
        go_ret
        exact ⟨rfl, hb⟩
    · have d1 : decide (1 ≤ s) = false := decide_eq_false h1
      obtain rfl : r = false := by rw [hr]; simp [h1]
      clear h1 hr ce
      go_enter Try.func18, Try.ntmps18
      go_wp2
      go_ret
      exact ⟨rfl, hb⟩
  exact key _ rfl
section
variable {k S P B xb : Nat} {w : World} {v : Nat → Nat} {L : List Pg}
/-- the four cells of the document's device -/
theorem Rdv.four (h : Rdv w v k S P B xb L) : ∃ u Q, w.heap[xb]? = some (.cells #[.int .i64 S, .int .i64 P, .int .i64 B, u] 75 (0, 0)) ∧
    w.cell? ⟨xb, 0, none⟩ = some (.int .i64 S) ∧ w.cell? ⟨xb, 1, none⟩ = some (.int .i64 P) ∧ w.cell? ⟨xb, 2, none⟩ = some (.int .i64 B) ∧ w.cell? ⟨xb, 3, none⟩ = some u ∧ w.frozen? ⟨xb, 3, none⟩ = false ∧
    Q.map Prod.fst = L ∧ w.ownsRow 0 93 4 u L.length (quads Q) ∧ (∀ g, u.ownBlock = some g → v g = k ∧ g ≠ xb) ∧ ∀ q ∈ Q, Dt w v q.2 (full B q.1.raw) := by
  obtain ⟨u, Q, h1, h2, h3, h4, h5⟩ := h.cells
  refine ⟨u, Q, h1, ?_, ?_, ?_, ?_, ?_, h2, h3, h4, h5⟩ <;> simp [World.cell?, World.frozen?, h1]
theorem has_any (h : Rdv w v k S P B xb L) (s p : Int) : Calls Try.prog 64 #[.pointer (some ⟨xb, 0, none⟩), .int .i64 s, .int .i64 p] w fun e w' => e = .returned (.bool (decide (0 ≤ s ∧ s < S ∧ 0 ≤ p ∧ p < P))) ∧ w = w' := by
  obtain ⟨u, Q, -, c0, c1, -⟩ := h.four
  clear h
  by_cases h1 : 0 ≤ s
  · have d1 : decide (0 ≤ s) = true := decide_eq_true h1
    by_cases h2 : s < S
    · have d2 : decide (s < (S : Int)) = true := decide_eq_true h2
      by_cases h3 : 0 ≤ p
      · have d3 : decide (0 ≤ p) = true := decide_eq_true h3
        have e : decide (0 ≤ s ∧ s < S ∧ 0 ≤ p ∧ p < (P : Int)) = decide (p < (P : Int)) := by simp [h1, h2, h3]
        rw [e]
        clear h1 h2 h3 e
        go_enter Try.func64, Try.ntmps64
        go_wp2
        go_ret
        exact ⟨rfl, rfl⟩
      · have d3 : decide (0 ≤ p) = false := decide_eq_false h3
        have e : decide (0 ≤ s ∧ s < S ∧ 0 ≤ p ∧ p < (P : Int)) = false := by simp [h3]
        rw [e]
        clear h1 h2 h3 e
        go_enter Try.func64, Try.ntmps64
        go_wp2
        go_ret
        exact ⟨rfl, rfl⟩
    · have d2 : decide (s < (S : Int)) = false := decide_eq_false h2
      have e : decide (0 ≤ s ∧ s < S ∧ 0 ≤ p ∧ p < (P : Int)) = false := by simp [h2]
      rw [e]
      clear h1 h2 e
      go_enter Try.func64, Try.ntmps64
      go_wp2
      go_ret
      exact ⟨rfl, rfl⟩
  · have d1 : decide (0 ≤ s) = false := decide_eq_false h1
    have e : decide (0 ≤ s ∧ s < S ∧ 0 ≤ p ∧ p < (P : Int)) = false := by simp [h1]
    rw [e]
    clear h1 e
    go_enter Try.func64, Try.ntmps64
    go_wp2
    go_ret
    exact ⟨rfl, rfl⟩
/-- bytes of their own, a page of them -/
def FullTo (B : Nat) (l : List UInt8) (w : World) (e : Ending) (w' : World) : Prop :=
  ∃ A c, e = .returned (.slice A B c) ∧ B ≤ c ∧ Bs w' w'.heap.size A B (full B l) ∧ A ≠ none ∧ (∀ a, A = some a → w.heap.size ≤ a.block) ∧ Below w.heap.size w w'
theorem full_next {B j : Nat} {l : List UInt8} (hj : j < B) : (full B l).take (j + 1) = (full B l).take j ++ [if h : j < l.length then l[j] else 255] := by
  rw [List.take_succ_eq_append_getElem (by rw [full_length]; exact hj)]
  congr 2
  unfold full
  split
  · rename_i h
    rw [List.getElem_append_left (by rw [List.length_take]; omega), List.getElem_take]
  · rename_i h
    rw [List.getElem_append_right (by rw [List.length_take]; omega), List.getElem_replicate]
set_option maxHeartbeats 2000000 in
theorem full_at {u : Value} (hh : w.heap[xb]? = some (.cells #[.int .i64 S, .int .i64 P, .int .i64 B, u] 75 (0, 0))) (A : Option Addr) (n c : Nat) (l : List UInt8) (h : Bs w w.heap.size A n l) (hB1 : 1 ≤ B) (hB : B ≤ 256) (hn : n ≤ 100000) :
    Calls Try.prog 55 #[.pointer (some ⟨xb, 0, none⟩), .slice A n c] w (FullTo B l w) := by
  obtain ⟨i0, hi, hz, hsz, hby⟩ := info_parts u8_info
  have HI := Lib.hid hi
  have HZ := Lib.hid hz
  have HSZ := Lib.hid hsz
  have HBY := Lib.hid hby
  clear hi hz hsz hby
  have HS := Lib.hid h
  have HL : Hid (l.length = n) := Lib.hid h.1
  have HH := Lib.hid hh
  have hlt : xb < w.heap.size := (Array.getElem?_eq_some_iff.1 hh).1
  clear h hh
  go_enter Try.func55, Try.ntmps55
  go_wp2
  go_loopw [5, 6] (fun x i wr => ∃ j : Nat, j ≤ B ∧ i = .int .i64 j ∧ Hid (wr.ownsRow w.heap.size 5 1 x j (vals ((full B l).take j))) ∧ Hid (Below w.heap.size w wr)) (fun _ i _ => B - (intOf i).toNat)
  case atStart => exact ⟨0, Nat.zero_le _, rfl, Lib.hid (World.ownsRow_nil _ _ _ _), Lib.hid (Below.refl _ _)⟩
  case round =>
    obtain ⟨j, hj, rfl, HO, HB⟩ := hrel
    have h2 := (HB.out.block xb hlt).trans HH.out
    have c2 : wr.cell? ⟨xb, 2, none⟩ = some (.int .i64 B) := by simp [World.cell?, h2]
    clear h2
    by_cases hjB : j < B
    · have hfn := full_next (l := l) hjB
      have hji : (j : Int) < B := by omega
      by_cases hjn : j < n
      · rw [dif_pos (by rw [HL.out]; exact hjn)] at hfn
        obtain ⟨b, off, rfl, hbB, hc⟩ := (HS.out.below HB.out).2 (by omega)
        have e1 := hc j (by rw [HL.out]; exact hjn)
        obtain ⟨y, hy⟩ : ∃ y, y = l[j]'(by rw [HL.out]; exact hjn) := ⟨_, rfl⟩
        rw [← hy] at e1 hfn
        have HFN := Lib.hid hfn
        have hjn2 : (j : Int) < n := by omega
        have HN1 : Hid (Row 5 (wr.alloc (.cells #[.int .u8 (y.toNat : Int)] 5)) wr.heap.size [y]) := Lib.hid (Row.new wr 5 [y])
        clear hc hfn hy
        go_wp2_with (at_builtin; refine wpList_append_bytes (o := ⟨some 26, _, _, _, _, _⟩) rfl (.tmp 20) (.tmp 25) 54 rfl w.heap.size 5 i0 Try.underlying54 HI.out HZ.out HSZ.out HBY.out _ j ((full B l).take j) rfl (HO.out.alloc _) (wr.heap.size + 1) (some ⟨wr.heap.size, 0, none⟩) 1 1 [y] rfl (HN1.out.bs (by omega)) (by omega) (by have := HB.out.size; simp; omega) ?_; intro v2 w2 HO2 HG2)
        go_roundw
        case rel =>
          have hbx := HB.out.alloc HB.out.size (.cells #[.int .u8 (y.toNat : Int)] 5)
          exact ⟨j + 1, by omega, by go_num, by rw [HFN.out]; exact HO2, Lib.hid (hbx.grown HG2.out hbx.size (fun q hq => (HO.out.lt q hq).1))⟩
        case measure => simp [intOf]; omega
      · rw [dif_neg (by rw [HL.out]; exact hjn)] at hfn
        have HFN := Lib.hid hfn
        have hjn2 : decide ((j : Int) < n) = false := decide_eq_false (by omega)
        have HN1 : Hid (Row 5 (wr.alloc (.cells #[.int .u8 255] 5)) wr.heap.size [255]) := Lib.hid (Row.new wr 5 [255])
        clear hfn
        go_wp2_with (at_builtin; refine wpList_append_bytes (o := ⟨some 29, _, _, _, _, _⟩) rfl (.tmp 27) (.tmp 28) 54 rfl w.heap.size 5 i0 Try.underlying54 HI.out HZ.out HSZ.out HBY.out _ j ((full B l).take j) rfl (HO.out.alloc _) (wr.heap.size + 1) (some ⟨wr.heap.size, 0, none⟩) 1 1 [255] rfl (HN1.out.bs (by omega)) (by omega) (by have := HB.out.size; simp; omega) ?_; intro v2 w2 HO2 HG2)
        go_roundw
        case rel =>
          have hbx := HB.out.alloc HB.out.size (.cells #[.int .u8 255] 5)
          exact ⟨j + 1, by omega, by go_num, by rw [HFN.out]; exact HO2, Lib.hid (hbx.grown HG2.out hbx.size (fun q hq => (HO.out.lt q hq).1))⟩
        case measure => simp [intOf]; omega
    · obtain rfl : j = B := by omega
      go_wp2
      go_ret
      have ho := HO.out
      rw [List.take_of_length_le (by rw [full_length]; exact Nat.le_refl _)] at ho
      obtain ⟨A2, cap, rfl, hbs, hc⟩ := own_bs ho
      refine ⟨A2, cap, rfl, hc, hbs, fun e => ?_, fun a ha => ?_, HB.out⟩
      · obtain ⟨b, off, e2, _⟩ := hbs.2 (by omega)
        rw [e] at e2
        cases e2
      · subst ha
        exact (ho.lt _ rfl).1
end
end Go.Proofs.YtndbjdnfibpicaaR
