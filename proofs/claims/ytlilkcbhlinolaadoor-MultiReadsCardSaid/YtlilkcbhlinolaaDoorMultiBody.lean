/-
  Contract of multi.body.
  Contract of multi.content.
-/
import Derived.Test.YtlilkcbhlinolaaDoorMultiErrs
import Derived.Test.YtlilkcbhlinolaaDoorMultiRead
import Derived.Test.YtlilkcbhlinolaaDoorBytesLib
import Derived.Test.YtlilkcbhlinolaaDoorMakeBytes
import Derived.Test.YtlilkcbhlinolaaDoorMultiHead
import Derived.Test.YtlilkcbhlinolaaDoorCrangeParseAny
namespace Go.Proofs.YtlilkcbhlinolaaDoor
open Go.ChangeShapes Go.WideShapes Go.ChangeAt Go.RowKit

/-- so many bytes, in memory of the call's own, and what stands behind their line; or an error of the form's -/
def BodyTo (B : Nat) (o : Option (List UInt8 × List UInt8)) (w : World) (e : Ending) (w' : World) : Prop :=
  Below w.heap.size w w' ∧ ((o = none ∧ ∃ x, e = .returned (.tuple #[.slice none 0 0, .slice none 0 0, formE x])) ∨
    ∃ own q A1 c1 A2 c2, o = some (own, q) ∧ e = .returned (.tuple #[.slice A1 own.length c1, .slice A2 q.length c2, .nilIface]) ∧ Bs w' w'.heap.size A1 own.length own ∧ own.length ≤ c1 ∧ Bs w' B A2 q.length q ∧ q.length ≤ c2 ∧ ∀ x, A1 = some x → w.heap.size ≤ x.block)
theorem body_short (A : Option Addr) (n c B : Nat) (m : Int) (w : World) (hm : (n : Int) < m) :
    Calls Tryd.prog 37 #[.slice A n c, .int .i64 m] w (BodyTo B none w) := by
  go_enter Tryd.func37, Tryd.ntmps37
  go_wp2
  refine bodyPost_ret (v := .tuple #[.slice none 0 0, .slice none 0 0, formE ⟨#[98, 121, 116, 101, 115, 32, 111, 102, 32, 97, 32, 98, 111, 100, 121]⟩]) (by simp [results, Tryd.results37, go_sem]) rfl ?_
  exact ⟨Below.refl _ _, .inl ⟨rfl, _, rfl⟩⟩
theorem eol_vals (w : World) (T : TypeId) (fr : Nat × Nat) : Bs (w.alloc (.cells #[.int .u8 13, .int .u8 10] T fr)) (w.heap.size + 1) (some ⟨w.heap.size, 0, none⟩) 2 Mu.eol := by
  refine ⟨rfl, fun _ => ⟨w.heap.size, 0, rfl, by omega, fun j hj => ?_⟩⟩
  rw [Nat.zero_add, cell_of_row (w.alloc (.cells #[.int .u8 13, .int .u8 10] T fr)) w.heap.size j _ T fr (heap_alloc_new w _)]
  match j, hj with
  | 0, _ => rfl
  | 1, _ => rfl
theorem body_end {l : List UInt8} {m n : Nat} (hl : l.length = n) (hm : m ≤ n) (h : Lib.hasPrefix (l.drop m) Mu.eol = true) : Mu.body l (m : Int) = some (l.take m, l.drop (m + 2)) := by
  unfold Mu.body
  rw [Int.toNat_natCast, if_neg (by omega), if_pos h]
theorem body_none {l : List UInt8} {m n : Nat} (hl : l.length = n) (hm : m ≤ n) (h : Lib.hasPrefix (l.drop m) Mu.eol = false) : Mu.body l (m : Int) = none := by
  unfold Mu.body
  rw [Int.toNat_natCast, if_neg (by omega), if_neg (by rw [h]; decide)]

set_option maxHeartbeats 2000000 in
set_option maxRecDepth 100000 in
theorem body_long (A : Option Addr) (n c B m : Nat) (l : List UInt8) (w : World) (h : Bs w B A n l) (hB : B ≤ w.heap.size) (hc : n ≤ c) (hm : m ≤ n) (hn : n ≤ 140737488355328) :
    Calls Tryd.prog 37 #[.slice A n c, .int .i64 (m : Int)] w (BodyTo B (Mu.body l (m : Int)) w) := by
  have hmk := fun W => make_bytes m (by omega) W
  obtain ⟨Z, hZ⟩ : ∃ Z, Z = List.replicate m (0 : UInt8) := ⟨_, rfl⟩
  rw [← hZ] at hmk
  have HZ : Hid (Z.length = m) := Lib.hid (by rw [hZ]; simp)
  clear hZ
  have hsl := slice_from A n c m hm
  have kc := fun (W : World) (C : Array Value) (a b : Nat) => Lib.run_convert_bytes_const (P := Tryd.prog) W 25 5 C a b Tryd.underlying25 Tryd.underlying5
  have HS := Lib.hid h
  have HL : Hid (l.length = n) := Lib.hid h.1
  have HF1 : Hid ((vals (l.take m)).length = Nat.min n m) := Lib.hid (by rw [vals_length, List.length_take, HL.out]; show min m n = min n m; omega)
  have HF2 : Hid (0 + (vals (l.take m)).length ≤ (vals Z).length) := Lib.hid (by rw [vals_length, vals_length, List.length_take, HZ.out]; omega)
  have HBk := h.behind hm hc
  obtain ⟨A2, hA2⟩ : ∃ x, x = behind A c m := ⟨_, rfl⟩
  rw [← hA2] at hsl HBk
  have HBK := Lib.hid HBk
  have HFR := Lib.hid (h.front hm)
  have HA0 := Lib.hid ((h.front hm).alloc hB (.cells (vals Z).toArray 5))
  have hmn : (m : Int) ≤ (n : Int) := by omega
  clear h hA2 HBk
  cases hp : Lib.hasPrefix (l.drop m) Mu.eol with
  | false =>
    have HN := Lib.hid (body_none HL.out hm hp)
    have HP := Lib.hid hp
    clear hp
    have tok1 : True := trivial
    go_enter Tryd.func37, Tryd.ntmps37
    go_wp2_with (first
      | (go_at_call 45; refine (cutPrefix_no (((HBK.out.below (hb2.mono hB))).below (((Below.refl w2.heap.size w2).alloc (Nat.le_refl _) _).mono (Nat.le_trans hB hb2.size))) (by omega) (eol_vals w2 _ _) HP.out).mono ?_; rintro e w3 ⟨rfl, rfl⟩)
      | (have _t := tok1; refine wpList_copy_splice (o := ⟨some 20, _, _, _, _, _⟩) rfl (.tmp 18) (.tmp 19) 25 25 rfl 5 Tryd.underlying25 u8_one (some ⟨w.heap.size, 0, none⟩) A m m n c rfl rfl w.heap.size 0 (vals Z) 5 (Row.new w _ Z) (vals (l.take m)) HF1.out (HA0.out.copies _) HF2.out (vals_one _) w.heap.size w ((Below.refl _ _).alloc (Nat.le_refl _) _) (Nat.le_refl _) ?_; intro w2 HG hb2; clear HG tok1 _t))
    refine bodyPost_ret (v := .tuple #[.slice none 0 0, .slice none 0 0, formE ⟨#[116, 104, 101, 32, 101, 110, 100, 32, 111, 102, 32, 97, 32, 98, 111, 100, 121, 39, 115, 32, 108, 105, 110, 101]⟩]) (by simp [results, Tryd.results37, go_sem]) rfl ?_
    exact ⟨hb2.alloc hb2.size _, .inl ⟨HN.out, _, rfl⟩⟩
  | true =>
    have HN := Lib.hid (body_end HL.out hm hp)
    have HP := Lib.hid hp
    have hpl := prefix_len hp
    rw [List.length_drop, HL.out] at hpl
    have hpl2 : 2 ≤ n - m := hpl
    clear hp hpl
    obtain ⟨A3, hA3⟩ : ∃ x, x = behind A2 (c - m) 2 := ⟨_, rfl⟩
    have cp : ∀ W, Below w.heap.size w W → ∀ d, Calls Tryd.prog 45 #[.slice A2 (n - m) (c - m), .slice (some ⟨W.heap.size, 0, none⟩) 2 d] (W.alloc (.cells #[.int .u8 13, .int .u8 10] 5 (2, 3))) fun e w' =>
        e = .returned (.tuple #[.slice A3 (n - m - 2) (c - m - 2), .bool true]) ∧ W.alloc (.cells #[.int .u8 13, .int .u8 10] 5 (2, 3)) = w' := fun W hb d => by
      rw [hA3]
      exact cutPrefix_yes (((HBK.out.below (hb.mono hB))).below (((Below.refl W.heap.size W).alloc (Nat.le_refl _) _).mono (Nat.le_trans hB hb.size))) (by omega) (eol_vals W _ _) HP.out
    have HA3 := Lib.hid hA3
    clear hA3
    have tok1 : True := trivial
    go_enter Tryd.func37, Tryd.ntmps37
    go_wp2_with (first
      | (go_at_call 45; (with_reducible refine (cp _ hb2 _).mono ?_); rintro e w3 ⟨rfl, rfl⟩)
      | (have _t := tok1; refine wpList_copy_splice (o := ⟨some 20, _, _, _, _, _⟩) rfl (.tmp 18) (.tmp 19) 25 25 rfl 5 Tryd.underlying25 u8_one (some ⟨w.heap.size, 0, none⟩) A m m n c rfl rfl w.heap.size 0 (vals Z) 5 (Row.new w _ Z) (vals (l.take m)) HF1.out (HA0.out.copies _) HF2.out (vals_one _) w.heap.size w ((Below.refl _ _).alloc (Nat.le_refl _) _) (Nat.le_refl _) ?_; intro w2 HG hb2; clear tok1 _t; replace HG := Lib.hid HG))
    refine bodyPost_ret (v := .tuple #[.slice (some ⟨w.heap.size, 0, none⟩) m m, .slice A3 (n - m - 2) (c - m - 2), .nilIface]) (by simp [results, Tryd.results37, go_sem]) rfl ?_
    have hR : Row 5 w2 w.heap.size (l.take m) := by
      have h1 := HG.out
      rw [splice_vals] at h1
      have e : Z.drop (l.take m).length = [] := List.drop_eq_nil_of_le (by rw [List.length_take, HZ.out, HL.out]; omega)
      rw [e, List.append_nil] at h1
      exact h1
    have hb3 := (Below.refl w2.heap.size w2).alloc (Nat.le_refl _) (.cells #[.int .u8 13, .int .u8 10] 5 (2, 3))
    have e1 : (l.take m).length = m := by rw [List.length_take, HL.out]; omega
    have e2 : (l.drop (m + 2)).length = n - m - 2 := by rw [List.length_drop, HL.out]; omega
    have hq := ((HBK.out.below (hb2.mono hB)).below (hb3.mono (Nat.le_trans hB hb2.size))).behind (k := 2) (c := c - m) hpl2 (by omega)
    rw [List.drop_drop, ← HA3.out] at hq
    refine ⟨hb2.alloc hb2.size _, .inr ⟨_, _, some ⟨w.heap.size, 0, none⟩, m, A3, c - m - 2, HN.out, by rw [e1, e2], ?_, by rw [e1]; exact Nat.le_refl _, by rw [e2]; exact hq, by rw [e2]; omega, fun x hx => by injection hx with hx; subst hx; exact Nat.le_refl _⟩⟩
    have hr2 := (hR.below hb3 hR.lt).bs (B := (w2.alloc (.cells #[.int .u8 13, .int .u8 10] 5 (2, 3))).heap.size) (Nat.lt_of_lt_of_le hR.lt hb3.size)
    exact hr2
theorem body_any (A : Option Addr) (n c B : Nat) (m : Int) (l : List UInt8) (w : World) (h : Bs w B A n l) (hB : B ≤ w.heap.size) (hc : n ≤ c) (h0 : 0 ≤ m) (hn : n ≤ 140737488355328) :
    Calls Tryd.prog 37 #[.slice A n c, .int .i64 m] w (BodyTo B (Mu.body l m) w) := by
  by_cases hm : (n : Int) < m
  · have e : Mu.body l m = none := by unfold Mu.body; rw [if_pos (by rw [h.1]; exact hm)]
    rw [e]
    exact body_short A n c B m w hm
  · obtain ⟨k, rfl⟩ := Int.eq_ofNat_of_zero_le h0
    exact body_long A n c B k l w h hB hc (by omega) hn

/-- a Content-Range and what stands behind it; or an error of the form's -/
def ContentTo (B : Nat) (o : Option (Cr.Con × List UInt8)) (w : World) (e : Ending) (w' : World) : Prop :=
  Below w.heap.size w w' ∧ ((o = none ∧ ∃ x, e = .returned (.tuple #[.agg #[.bool false, .int .i64 0, .int .i64 0, .int .i64 0], .slice none 0 0, formE x])) ∨
    ∃ k a b n q A2 c2, o = some ((k, a, b, n), q) ∧ e = .returned (.tuple #[.agg #[.bool k, .int .i64 a, .int .i64 b, .int .i64 n], .slice A2 q.length c2, .nilIface]) ∧ Bs w' B A2 q.length q ∧ q.length ≤ c2)
/-- the row [13, 10, 13, 10], just made -/
def TwoRow : Obj := .cells #[.int .u8 13, .int .u8 10, .int .u8 13, .int .u8 10] 5 (4, 5)
theorem two_vals (w : World) : Bs (w.alloc TwoRow) (w.heap.size + 1) (some ⟨w.heap.size, 0, none⟩) 4 Mu.two := by
  refine ⟨rfl, fun _ => ⟨w.heap.size, 0, rfl, by omega, fun j hj => ?_⟩⟩
  rw [Nat.zero_add, cell_of_row (w.alloc TwoRow) w.heap.size j _ _ _ (heap_alloc_new w _)]
  match j, hj with
  | 0, _ => rfl
  | 1, _ => rfl
  | 2, _ => rfl
  | 3, _ => rfl
/-- cut in two, in a world behind -/
def LineTo (B : Nat) (l1 l2 : List UInt8) (is : Bool) (w : World) (e : Ending) (w' : World) : Prop :=
  ∃ A1 c1 A2 c2, e = .returned (.tuple #[.slice A1 l1.length c1, .slice A2 l2.length c2, .bool is]) ∧ Bs w' B A1 l1.length l1 ∧ Bs w' B A2 l2.length l2 ∧ l2.length ≤ c2 ∧ Below w.heap.size w w'
theorem line_to {B : Nat} {x : List UInt8 × List UInt8 × Bool} {w w' : World} {e : Ending} (h : CutBTo B x w e w') : LineTo B x.1 x.2.1 x.2.2 w e w' := by
  obtain ⟨⟨A1, c1, A2, c2, he, h1, _, h3, h4⟩, q, rfl⟩ := h
  exact ⟨A1, c1, A2, c2, he, h1, h3, h4, below_drewN (Below.refl _ _) q⟩

section
variable (A : Option Addr) (n c : Nat) (U X : ByteArray) (w : World)
    (cl : ∀ W, Calls Tryd.prog 31 #[.string U] W fun e w' => e = .returned (.string X) ∧ W = w')
include cl
set_option maxHeartbeats 2000000 in
theorem content_no (B : Nat)
    (cp : ∀ W g cap, Below w.heap.size w W → Cells W g X.data.toList → Calls Tryd.prog 45 #[.slice A n c, .slice (some ⟨g, 0, none⟩) X.size cap] W fun e w' => e = .returned (.tuple #[.slice A n c, .bool false]) ∧ W = w') :
    Calls Tryd.prog 36 #[.slice A n c, .string U] w (ContentTo B none w) := by
  obtain ⟨cap, W1, kb, hc1, hb1⟩ := bytes_made X (w.alloc (.cells #[.bool false, .int .i64 0, .int .i64 0, .int .i64 0] 52))
  have HP := Lib.hid ((Pt.new w 52).next hb1)
  have cp2 := cp W1 _ cap (HP.out.1) hc1
  generalize (w.alloc (.cells #[.bool false, .int .i64 0, .int .i64 0, .int .i64 0] 52)).heap.size = g at *
  obtain ⟨_, ⟨x0, x1, x2, x3, x4, x5, x6, x7, x8⟩⟩ := HP.out
  clear cp hb1 hc1
  go_enter Tryd.func36, Tryd.ntmps36
  go_wp2_with (first
    | (go_at_call 31; refine (cl _).mono ?_; rintro e w1 ⟨rfl, rfl⟩)
    | (go_at_call 45; refine cp2.mono ?_; rintro e w2 ⟨rfl, rfl⟩))
  refine bodyPost_ret (v := .tuple #[.agg #[.bool false, .int .i64 0, .int .i64 0, .int .i64 0], .slice none 0 0, formE ⟨#[97, 32, 112, 97, 114, 116, 44, 32, 111, 114, 32, 116, 104, 101, 32, 99, 108, 111, 115, 105, 110, 103, 32, 108, 105, 110, 101]⟩]) (by simp [results, Tryd.results36, go_sem, x1, x2, x3, x4]) rfl ?_
  exact ⟨HP.out.done _ _ _ _, .inl ⟨rfl, _, rfl⟩⟩
end
section
variable (A : Option Addr) (n c n3 c3 : Nat) (a3 : Addr) (U X : ByteArray) (l1 l2 : List UInt8) (is : Bool) (k : Bool) (a b t err : Int) (w : World)
    (cl : ∀ W, Calls Tryd.prog 31 #[.string U] W fun e w' => e = .returned (.string X) ∧ W = w')
    (cp : ∀ W g cap, Below w.heap.size w W → Cells W g X.data.toList → Calls Tryd.prog 45 #[.slice A n c, .slice (some ⟨g, 0, none⟩) X.size cap] W fun e w' => e = .returned (.tuple #[.slice (some a3) n3 c3, .bool true]) ∧ W = w')
include cl cp
set_option maxHeartbeats 4000000 in
theorem content_bad (B : Nat) (h1 : (err == 0) = false)
    (cc : ∀ W d, Below w.heap.size w W → Calls Tryd.prog 46 #[.slice (some a3) n3 c3, .slice (some ⟨W.heap.size, 0, none⟩) 4 d] (W.alloc TwoRow) (LineTo B l1 l2 is (W.alloc TwoRow)))
    (cr : ∀ W, Calls Tryd.prog 47 #[.string (Str l1)] W fun e w' => e = .returned (.tuple #[.agg #[.bool k, .int .i64 a, .int .i64 b, .int .i64 t], .int .i64 err]) ∧ Below W.heap.size W w') :
    Calls Tryd.prog 36 #[.slice A n c, .string U] w (ContentTo B none w) := by
  obtain ⟨cap, W1, kb, hc1, hb1⟩ := bytes_made X (w.alloc (.cells #[.bool false, .int .i64 0, .int .i64 0, .int .i64 0] 52))
  have HP := Lib.hid ((Pt.new w 52).next hb1)
  have cp2 := cp W1 _ cap (HP.out.1) hc1
  have cc2 := fun d => cc W1 d HP.out.1
  replace HP := Lib.hid (HP.out.alloc TwoRow)
  generalize (w.alloc (.cells #[.bool false, .int .i64 0, .int .i64 0, .int .i64 0] 52)).heap.size = g at *
  have kc := fun (W : World) (C : Array Value) (a b : Nat) => Lib.run_convert_bytes_const (P := Tryd.prog) W 25 5 C a b Tryd.underlying25 Tryd.underlying5
  have h2 := ne_of h1
  generalize hX : Str l1 = L1 at cr
  unfold TwoRow at HP cc2
  clear cp hb1 hc1 cc
  go_enter Tryd.func36, Tryd.ntmps36
  go_wp2_with (first
    | (go_at_call 31; refine (cl _).mono ?_; rintro e w1 ⟨rfl, rfl⟩)
    | (go_at_call 45; refine cp2.mono ?_; rintro e w2 ⟨rfl, rfl⟩)
    | (go_at_call 46; refine (cc2 _).mono ?_; rintro e w3 ⟨A1, c1, A2, c2, rfl, hs1, hs2, hl2, hb3⟩; have kt := conv_text (c := c1) hs1; rw [hX] at kt; replace HP := Lib.hid (HP.out.next hb3); clear hs1 hs2 hl2 hb3)
    | (go_at_call 47; refine (cr _).mono ?_; rintro e w4 ⟨rfl, hb4⟩; clear kt; replace HP := Lib.hid (HP.out.next hb4); clear hb4; obtain ⟨_, ⟨x0, x1, x2, x3, x4, x5, x6, x7, x8⟩⟩ := HP.out))
  have hq := (HP.out.2.put4 (.bool false) (.int .i64 0) (.int .i64 0) (.int .i64 0)).alloc (.cells #[.bool k, .int .i64 a, .int .i64 b, .int .i64 t] 52)
  obtain ⟨_, q1, q2, q3, q4, _⟩ := hq
  refine bodyPost_ret (v := .tuple #[.agg #[.bool false, .int .i64 0, .int .i64 0, .int .i64 0], .slice none 0 0, formE ⟨#[97, 32, 67, 111, 110, 116, 101, 110, 116, 45, 82, 97, 110, 103, 101]⟩]) (by simp [results, Tryd.results36, go_sem, q1, q2, q3, q4]) rfl ?_
  have hd := HP.out.done (.bool false) (.int .i64 0) (.int .i64 0) (.int .i64 0)
  exact ⟨hd.alloc hd.size _, .inl ⟨rfl, _, rfl⟩⟩
set_option maxHeartbeats 4000000 in
theorem content_good (B : Nat) (hB : B ≤ w.heap.size)
    (cc : ∀ W d, Below w.heap.size w W → Calls Tryd.prog 46 #[.slice (some a3) n3 c3, .slice (some ⟨W.heap.size, 0, none⟩) 4 d] (W.alloc TwoRow) (LineTo B l1 l2 is (W.alloc TwoRow)))
    (cr : ∀ W, Calls Tryd.prog 47 #[.string (Str l1)] W fun e w' => e = .returned (.tuple #[.agg #[.bool k, .int .i64 a, .int .i64 b, .int .i64 t], .int .i64 0]) ∧ Below W.heap.size W w') :
    Calls Tryd.prog 36 #[.slice A n c, .string U] w (ContentTo B (some ((k, a, b, t), l2)) w) := by
  obtain ⟨cap, W1, kb, hc1, hb1⟩ := bytes_made X (w.alloc (.cells #[.bool false, .int .i64 0, .int .i64 0, .int .i64 0] 52))
  have HP := Lib.hid ((Pt.new w 52).next hb1)
  have cp2 := cp W1 _ cap (HP.out.1) hc1
  have cc2 := fun d => cc W1 d HP.out.1
  replace HP := Lib.hid (HP.out.alloc TwoRow)
  generalize (w.alloc (.cells #[.bool false, .int .i64 0, .int .i64 0, .int .i64 0] 52)).heap.size = g at *
  have kc := fun (W : World) (C : Array Value) (a b : Nat) => Lib.run_convert_bytes_const (P := Tryd.prog) W 25 5 C a b Tryd.underlying25 Tryd.underlying5
  generalize hX : Str l1 = L1 at cr
  unfold TwoRow at HP cc2
  clear cp hb1 hc1 cc
  go_enter Tryd.func36, Tryd.ntmps36
  go_wp2_with (first
    | (go_at_call 31; refine (cl _).mono ?_; rintro e w1 ⟨rfl, rfl⟩)
    | (go_at_call 45; refine cp2.mono ?_; rintro e w2 ⟨rfl, rfl⟩)
    | (go_at_call 46; refine (cc2 _).mono ?_; rintro e w3 ⟨A1, c1, A2, c2, rfl, hs1, hs2, hl2, hb3⟩; have kt := conv_text (c := c1) hs1; rw [hX] at kt; replace HP := Lib.hid (HP.out.next hb3); have HS2 := Lib.hid hs2; have HL2 := Lib.hid hl2; clear hs1 hs2 hl2 hb3)
    | (go_at_call 47; refine (cr _).mono ?_; rintro e w4 ⟨rfl, hb4⟩; clear kt; replace HS2 := Lib.hid (HS2.out.below (hb4.mono (Nat.le_trans hB HP.out.1.size))); replace HP := Lib.hid (HP.out.next hb4); clear hb4; obtain ⟨_, ⟨x0, x1, x2, x3, x4, x5, x6, x7, x8⟩⟩ := HP.out))
  have hq := (HP.out.2.put4 (.bool k) (.int .i64 a) (.int .i64 b) (.int .i64 t)).alloc (.cells #[.bool k, .int .i64 a, .int .i64 b, .int .i64 t] 52)
  obtain ⟨_, q1, q2, q3, q4, _⟩ := hq
  refine bodyPost_ret (v := .tuple #[.agg #[.bool k, .int .i64 a, .int .i64 b, .int .i64 t], .slice A2 l2.length c2, .nilIface]) (by simp [results, Tryd.results36, go_sem, q1, q2, q3, q4]) rfl ?_
  have hd := HP.out.done (.bool k) (.int .i64 a) (.int .i64 b) (.int .i64 t)
  have hb5 : Below w.heap.size w4 (((((w4.setCell ⟨w.heap.size, 0, none⟩ (.bool k)).setCell ⟨w.heap.size, 1, none⟩ (.int .i64 a)).setCell ⟨w.heap.size, 2, none⟩ (.int .i64 b)).setCell ⟨w.heap.size, 3, none⟩ (.int .i64 t)).alloc (.cells #[.bool k, .int .i64 a, .int .i64 b, .int .i64 t] 52)) := by
    refine (((((Below.refl w.heap.size w4).setCell (p := ⟨_, _, _⟩) (Nat.le_refl _) _).setCell (p := ⟨_, _, _⟩) (Nat.le_refl _) _).setCell (p := ⟨_, _, _⟩) (Nat.le_refl _) _).setCell (p := ⟨_, _, _⟩) (Nat.le_refl _) _).alloc ?_ _
    exact hd.size
  exact ⟨hd.alloc hd.size _, .inr ⟨k, a, b, t, l2, A2, c2, rfl, rfl, HS2.out.below (hb5.mono hB), HL2.out⟩⟩
end
theorem content_any (A : Option Addr) (n c B : Nat) (l : List UInt8) (U : ByteArray) (w : World) (h : Bs w B A n l) (hB : B ≤ w.heap.size) (hc : n ≤ c) (hn : n < 4294967281) (hU : U.size ≤ 40) (hE : Env w) :
    Calls Tryd.prog 36 #[.slice A n c, .string U] w (ContentTo B (Mu.content U.data.toList l) w) := by
  have cl := fun W => lead_any U W hU
  have hl2 : (Mu.lead U.data.toList).length = (Str (Mu.lead U.data.toList)).size := (str_size _).symm
  have hlist := str_list (Mu.lead U.data.toList)
  have hpos : 0 < (Mu.lead U.data.toList).length := by
    unfold Mu.lead
    simp only [List.length_append, List.length_cons, List.length_nil]
    omega
  unfold Mu.content
  by_cases hp : Lib.hasPrefix l (Mu.lead U.data.toList) = true
  · rw [if_pos hp]
    have hle := prefix_len hp
    have h0 : 0 < n := by rw [← h.1]; omega
    obtain ⟨b0, o0, rfl, hb0, _⟩ := h.2 h0
    obtain ⟨a3, ha3⟩ := behind_some ⟨b0, o0, none⟩ c (Mu.lead U.data.toList).length
    have hlen := h.1
    have cp : ∀ W g cap, Below w.heap.size w W → Cells W g (Str (Mu.lead U.data.toList)).data.toList → Calls Tryd.prog 45 #[.slice (some ⟨b0, o0, none⟩) n c, .slice (some ⟨g, 0, none⟩) (Str (Mu.lead U.data.toList)).size cap] W fun e w' =>
        e = .returned (.tuple #[.slice (some a3) (n - (Mu.lead U.data.toList).length) (c - (Mu.lead U.data.toList).length), .bool true]) ∧ W = w' := fun W g cap hb hcs => by
      have hbs := hcs.bs
      rw [hlist, hl2] at hbs
      rw [← ha3]
      exact cutPrefix_yes (h.below (hb.mono hB)) hc hbs hp
    have hbk := Bs.behind (k := (Mu.lead U.data.toList).length) (c := c) h (by rw [← hlen]; exact hle) hc
    rw [ha3] at hbk
    have cc : ∀ W d, Below w.heap.size w W → Calls Tryd.prog 46 #[.slice (some a3) (n - (Mu.lead U.data.toList).length) (c - (Mu.lead U.data.toList).length), .slice (some ⟨W.heap.size, 0, none⟩) 4 d] (W.alloc TwoRow)
        (LineTo B (Mu.line (l.drop (Mu.lead U.data.toList).length)).1 (Mu.line (l.drop (Mu.lead U.data.toList).length)).2 (CutBytes (l.drop (Mu.lead U.data.toList).length) Mu.two).2.2 (W.alloc TwoRow)) := fun W d hb => by
      have hb2 := hb.alloc hb.size TwoRow
      have := cut_bytes (B2 := W.heap.size + 1) (d := d) (hbk.below (hb2.mono hB)) (Nat.sub_le_sub_right hc _) (two_vals W) (Nat.lt_of_le_of_lt (Nat.sub_le _ _) hn) (by omega) (by unfold Mu.two; simp) ((hE.on hb2).2.2.2)
      have e1 : (CutBytes (l.drop (Mu.lead U.data.toList).length) Mu.two).1 = (Mu.line (l.drop (Mu.lead U.data.toList).length)).1 ∧ (CutBytes (l.drop (Mu.lead U.data.toList).length) Mu.two).2.1 = (Mu.line (l.drop (Mu.lead U.data.toList).length)).2 := by
        unfold CutBytes Mu.line
        split <;> exact ⟨rfl, rfl⟩
      refine this.mono fun e w' hcut => ?_
      have := line_to hcut
      rw [e1.1, e1.2] at this
      exact this
    have hl1 := (Mu.line_le (l.drop (Mu.lead U.data.toList).length)).1
    rw [List.length_drop, hlen] at hl1
    have cr := fun W => crParse_any (Str (Mu.line (l.drop (Mu.lead U.data.toList).length)).1) W (by rw [str_size]; unfold maxLen; omega)
    rw [str_list] at cr
    generalize Mu.line (l.drop (Mu.lead U.data.toList).length) = x at *
    obtain ⟨l1, l2⟩ := x
    dsimp only at *
    unfold ConIs ConTo at cr
    generalize Cr.parse l1 = y at *
    obtain ⟨⟨k, a, b, t⟩, er⟩ := y
    dsimp only at *
    by_cases he : (er == 0) = true
    · rw [if_pos he]
      obtain rfl : er = 0 := by simpa using he
      exact content_good _ n c _ _ a3 U _ l1 l2 _ k a b t w cl cp B hB cc cr
    · rw [if_neg he]
      exact content_bad _ n c _ _ a3 U _ l1 l2 _ k a b t er w cl cp B (by simpa using he) cc cr
  · rw [if_neg hp]
    refine content_no A n c U _ w cl B fun W g cap hb hcs => ?_
    have hbs := hcs.bs
    rw [hlist, hl2] at hbs
    exact cutPrefix_no (h.below (hb.mono hB)) hc hbs (by simpa using hp)
end Go.Proofs.YtlilkcbhlinolaaDoor
