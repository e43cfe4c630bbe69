/-
  The program's device: Read.
-/
import Derived.Test.YtndbjdnfibpicaaRFlashSmall
import Derived.Test.YtndbjdnfibpicaaRFlashRepeat
import Derived.StillTailTactics
import Derived.Test.YtndbjdnfibpicaaRMCells
namespace Go.Proofs.YtndbjdnfibpicaaR
open Go.ChangeShapes Go.WideShapes Go.ChangeAt Go.RowKit Fl
set_option maxRecDepth 100000

theorem splice_full (B : Nat) (r : List UInt8) (hr : r.length ≤ B) : splice (vals (List.replicate B 255)) 0 (vals r) = vals (full B r) := by
  unfold full
  rw [splice_vals, List.drop_replicate, List.take_of_length_le hr]
section
variable {k S P B db mb : Nat} {w : World} {v : Nat → Nat} {L : List Pg}
theorem read_nil (s p : Int) (w : World) : Calls Try.prog 37 #[.pointer none, .int .i64 s, .int .i64 p] w fun e w' => e = .returned (.tuple #[nl, .int .i64 2]) ∧ Below w.heap.size w w' := by
  have hp := place_nil s p w
  go_enter Try.func37, Try.ntmps37
  go_wp2_with (go_at_call 45; (with_reducible refine hp.mono ?_); rintro e w1 ⟨rfl, hb1⟩; unfold kv)
  go_ret2
  exact ⟨rfl, hb1.alloc hb1.size _⟩
theorem read_out (h : Dev w v k S P B db mb L) (s p : Int) (hin : ¬ (0 ≤ s ∧ s < S ∧ 0 ≤ p ∧ p < P)) :
    Calls Try.prog 37 #[.pointer (some ⟨db, 0, none⟩), .int .i64 s, .int .i64 p] w fun e w' => e = .returned (.tuple #[nl, .int .i64 6]) ∧ Below w.heap.size w w' := by
  have hpl := place_any h s p
  unfold PlaceTo at hpl
  simp only [if_neg hin] at hpl
  clear h hin
  go_enter Try.func37, Try.ntmps37
  go_wp2_with (go_at_call 45; (with_reducible refine hpl.mono ?_); rintro e w1 ⟨rfl, hb1⟩; unfold kv)
  go_ret2
  exact ⟨rfl, hb1.alloc hb1.size _⟩
/-- a page's bytes, in a block of their own -/
def ReadTo (B : Nat) (L : List Pg) (s p : Int) (w : World) (e : Ending) (w' : World) : Prop :=
  ∃ g, e = .returned (.tuple #[.slice (some ⟨g, 0, none⟩) B B, .int .i64 0]) ∧ w.heap.size ≤ g ∧ Row 5 w' g (full B ((lk L s p).getD [])) ∧ Below w.heap.size w w'
theorem new_byte (w1 : World) (o : Obj) : Bs ((w1.alloc o).alloc (.cells #[.int .u8 255] 5)) ((w1.alloc o).alloc (.cells #[.int .u8 255] 5)).heap.size (some ⟨w1.heap.size + 1, 0, none⟩) 1 [255] := by
  have h : Row 5 ((w1.alloc o).alloc (.cells #[.int .u8 255] 5)) (w1.alloc o).heap.size [255] := Row.new (w1.alloc o) 5 [255]
  rw [size_alloc] at h
  exact h.bs (by rw [size_alloc, size_alloc]; omega)
set_option maxHeartbeats 2000000 in
theorem read_in (h : Dev w v k S P B db mb L) (s p : Int) (hs : W64 s) (hp : W64 p) (hin : 0 ≤ s ∧ s < S ∧ 0 ≤ p ∧ p < P) :
    Calls Try.prog 37 #[.pointer (some ⟨db, 0, none⟩), .int .i64 s, .int .i64 p] w (ReadTo B L s p w) := by
  have hpl := place_any h s p
  unfold PlaceTo at hpl
  simp only [if_pos hin] at hpl
  obtain ⟨x, HL⟩ := h.lookup hs hp false
  replace HL := Lib.hid HL
  have HD := Lib.hid h
  have hb16 := h.shp.b1
  have hb256 := h.shp.b2
  clear h hin
  go_enter Try.func37, Try.ntmps37
  go_wp2_with (first
    | (go_at_call 45; (with_reducible refine hpl.mono ?_); rintro e w1 ⟨rfl, hb1⟩; unfold kv; have hb2 := (hb1.alloc hb1.size (.cells #[.int .i64 s, .int .i64 p] 51)); have hb3 := hb2.alloc hb2.size (.cells #[.int .u8 255] 5); obtain ⟨_, _, _, _, c2, _⟩ := (HD.out.below hb3).five; have HB3 := Lib.hid hb3; clear hpl)
    | (go_at_call 54; (with_reducible refine (repeat_any _ B 1 _ _ (new_byte w1 _) (Nat.le_refl _) (by omega) hb256).mono ?_); rintro e w2 ⟨g, rfl, hg, hr, hb4⟩; have HR := Lib.hid hr; have HG : Hid (w1.heap.size + 2 ≤ g) := Lib.hid (by rw [size_alloc, size_alloc] at hg; exact hg); have HB4 := Lib.hid (hb3.trans (hb4.mono hb3.size)); have HB5 := Lib.hid hb4; clear hr hg hb4))
  have h2 := HL.out _ HB4.out.drew
  have c3 : w2.cell? ⟨db, 3, none⟩ = some (.map (some mb)) := h2.1
  have hlk := h2.2.1
  unfold kv at hlk
  simp only [Bool.false_eq_true, if_false] at hlk
  obtain ⟨_, t0, t1⟩ := ((Two.new w1 (.int .i64 s) (.int .i64 p) 51).alloc (.cells #[.int .u8 255] 5)).below HB5.out
  have HX : Hid (∃ A n c, x = .slice A n c ∧ n = ((lk L s p).getD []).length ∧ n ≤ B ∧ Bs w2.drew w2.heap.size A n ((lk L s p).getD [])) := Lib.hid (by
    rcases h2.2.2 with ⟨e, rfl⟩ | ⟨r, e, A, c, rfl, _, hbs, _⟩
    · exact ⟨none, 0, 0, rfl, by rw [e]; rfl, Nat.zero_le _, by rw [e]; exact Bs.nil _ _ _⟩
    · exact ⟨A, r.length, c, rfl, by rw [e]; rfl, lk_len HD.out.ok e, by rw [e]; exact hbs⟩)
  clear h2 hb2 hb3 c2
  obtain ⟨A, n, c, rfl, hn, hnB, hbs⟩ := HX.out
  obtain ⟨r, hr9⟩ : ∃ r, r = (lk L s p).getD [] := ⟨_, rfl⟩
  rw [← hr9] at hn hbs
  have HR9 := Lib.hid hr9
  clear hr9
  have HS := Lib.hid hbs
  have HN : Hid ((vals r).length = Nat.min n B) := Lib.hid (by rw [vals_length, ← hn]; exact (Nat.min_eq_left hnB).symm)
  have HF : Hid (0 + (vals r).length ≤ (vals (List.replicate B (255 : UInt8))).length) := Lib.hid (by rw [vals_length, vals_length, List.length_replicate, ← hn]; omega)
  have HSP := Lib.hid (splice_full B r (by omega))
  have HRW : Hid (w2.drew.heap[g]? = some (.cells (vals (List.replicate B 255)).toArray 5 (0, 0))) := Lib.hid HR.out
  generalize vals (List.replicate B (255 : UInt8)) = C at HF HSP HRW
  have HB6 := Lib.hid HB4.out.drew
  have HG2 : Hid (w.heap.size ≤ g) := Lib.hid (by have := hb1.size; have := HG.out; omega)
  clear hbs hn HX HR
  go_still_tail 7, (by kernel_rfl)
  change wpList _ _ _ _ _ w2.drew
  go_wp2_with (refine wpList_copy_splice (o := ⟨some 35, _, _, _, _, _⟩) rfl (.tmp 28) (.tmp 34) 54 54 rfl 5 Try.underlying54 u8_one (some ⟨g, 0, none⟩) A B B n c rfl rfl g 0 C 5 HRW.out (vals r) HN.out (HS.out.copies _) HF.out (vals_one _) w.heap.size w HB6.out HG2.out ?_; intro w3 HG3 HB3)
  go_ret2
  have h3 := HG3.out
  rw [HSP.out] at h3
  exact ⟨g, rfl, HG2.out, by rw [← HR9.out]; exact h3, HB3⟩
end
end Go.Proofs.YtndbjdnfibpicaaR
