/-
  Contracts of package text: Lower, Fold, Cut.
-/
import Derived.Test.YtlilkcbhlinolaaDoorTextStr
import Derived.Laws.IdiomStrings
import Derived.Lib.SlBytesConst
import Derived.Test.YtlilkcbhlinolaaDoorBytes
namespace Go.Proofs.YtlilkcbhlinolaaDoor
open Go.ChangeShapes Go.WideShapes Go.ChangeAt Go.RowKit

/-- the first cells of a block are these bytes, and may be written -/
def Cells (w : World) (g : Nat) (L : List UInt8) : Prop :=
  g < w.heap.size ∧ ∀ j (h : j < L.length), w.cell? ⟨g, j, none⟩ = some (.int .u8 (L[j].toNat : Int)) ∧ w.frozen? ⟨g, j, none⟩ = false
section
variable {w w' : World} {g : Nat} {L : List UInt8}
theorem Cells.below (h : Cells w g L) (hb : Below w.heap.size w w') : Cells w' g L :=
  ⟨Nat.lt_of_lt_of_le h.1 hb.size, fun j hj => ⟨(hb.cell (p := ⟨g, j, none⟩) h.1).trans (h.2 j hj).1, (hb.frozen (p := ⟨g, j, none⟩) h.1).trans (h.2 j hj).2⟩⟩
theorem Cells.put (h : Cells w g L) (k : Nat) (x : UInt8) : Cells (w.setCell ⟨g, k, none⟩ (.int .u8 (x.toNat : Int))) g (L.set k x) := by
  refine ⟨by rw [World.size_setCell]; exact h.1, fun j hj => ?_⟩
  have hj' : j < L.length := by simpa using hj
  refine ⟨?_, by rw [World.frozen?_setCell]; exact (h.2 j hj').2⟩
  by_cases e : k = j
  · subst e
    rw [World.cell?_setCell_same' _ _ _ (by rw [(h.2 k hj').1]; rfl)]
    simp
  · rw [World.cell?_setCell_other _ _ _ _ (fun e' => e (by injection e')), List.getElem_set_ne e]
    exact (h.2 j hj').1
end
theorem bytes_made (s : ByteArray) (w : World) : ∃ cap W1, (convert 9 25 (.string s)).run Tryd.prog w = .ok (.slice (some ⟨w.heap.size, 0, none⟩) s.size cap) W1 ∧ Cells W1 w.heap.size s.data.toList ∧ Below w.heap.size w W1 := by
  refine ⟨_, _, run_bytes_of_string w 9 25 5 s Tryd.underlying9 Tryd.underlying25 Tryd.underlying5, ⟨?_, ?_⟩, ?_⟩
  · simp
  · intro j hj
    have hj' : j < s.data.size := by simpa using hj
    generalize grownCap w s.size 0 5 = cap
    constructor
    · refine (World.cell?_alloc_mark w.drew _ _ _ j).trans ?_
      rw [bytesRow_at s cap j hj']
      rfl
    · refine (World.frozen?_alloc_mark w.drew _ _ _ _ j).trans ?_
      have : s.data.size ≤ (bytesRow s cap).size := by simp [bytesRow]
      rw [decide_eq_false (by omega)]
      rfl
  · exact (Below.refl w.heap.size w.drew).alloc (Nat.le_refl _) _ |> fun h => ⟨h.os, h.tape, h.output, h.size, h.block⟩

theorem low_cap {x : UInt8} (h : Tx.cap x = true) : Tx.low x = x + 32 ∧ 65 ≤ (x.toNat : Int) ∧ (x.toNat : Int) ≤ 90 ∧ ((Tx.low x).toNat : Int) = (x.toNat : Int) - 65 + 97 := by
  have h1 : 65 ≤ (x.toNat : Int) ∧ (x.toNat : Int) ≤ 90 := by simpa [Tx.cap, Tx.within] using h
  have e : Tx.low x = x + 32 := by unfold Tx.low; rw [if_pos h]
  refine ⟨e, h1.1, h1.2, ?_⟩
  rw [e, UInt8.toNat_add, show (32 : UInt8).toNat = 32 from rfl, Nat.mod_eq_of_lt (by omega)]
  omega
theorem low_no {x : UInt8} (h : Tx.cap x = false) : Tx.low x = x := by unfold Tx.low; rw [if_neg (by rw [h]; simp)]
theorem lows_len (l : List UInt8) (k : Nat) : ((l.take k).map Tx.low ++ l.drop k).length = l.length := by
  rw [List.length_append, List.length_map, ← List.length_append, List.take_append_drop]
theorem lows_front {l : List UInt8} {k : Nat} (hk : k < l.length) : ((l.take k).map Tx.low).length = k := by rw [List.length_map, List.length_take]; omega
theorem lows_at {l : List UInt8} {k : Nat} (hk : k < l.length) (h : k < ((l.take k).map Tx.low ++ l.drop k).length) : ((l.take k).map Tx.low ++ l.drop k)[k] = l[k] := by
  have hf := lows_front hk
  rw [List.getElem_append_right (by omega)]
  simp only [hf, Nat.sub_self, List.getElem_drop, Nat.add_zero]
theorem lows_set {l : List UInt8} {k : Nat} (hk : k < l.length) : ((l.take k).map Tx.low ++ l.drop k).set k (Tx.low l[k]) = (l.take (k + 1)).map Tx.low ++ l.drop (k + 1) := by
  have hf := lows_front hk
  rw [List.take_succ_eq_append_getElem hk, List.map_append, List.set_append_right _ _ (by omega), hf, Nat.sub_self, List.drop_eq_getElem_cons hk]
  simp only [List.set_cons_zero, List.map_cons, List.map_nil, List.append_assoc, List.singleton_append]
theorem lows_same {l : List UInt8} {k : Nat} (hk : k < l.length) (h : Tx.low l[k] = l[k]) : (l.take k).map Tx.low ++ l.drop k = (l.take (k + 1)).map Tx.low ++ l.drop (k + 1) := by
  rw [List.take_succ_eq_append_getElem hk, List.map_append, List.drop_eq_getElem_cons hk]
  simp [h]

set_option maxHeartbeats 1000000 in
theorem lower_any (s : ByteArray) (w : World) (hs : s.size ≤ 9223372036854775807) :
    Calls Tryd.prog 67 #[.string s] w fun e w' => e = .returned (.string (Str (s.data.toList.map Tx.low))) ∧ Below w.heap.size w w' := by
  have f1 := field1
  obtain ⟨cap, W1, kc, hc1, hb1⟩ := bytes_made s w
  obtain ⟨g, hg⟩ : ∃ g, g = w.heap.size := ⟨_, rfl⟩
  rw [← hg] at kc hc1 hb1 ⊢
  have HB1 : Hid (Below g w W1) := Lib.hid (hg ▸ hb1)
  have HC1 := Lib.hid hc1
  have HG : g ≤ w.heap.size := by omega
  have HS : Hid (s.data.toList.length = s.size) := Lib.hid (size_list s)
  clear hc1 hb1 hg
  go_enter Tryd.func67, Tryd.ntmps67
  go_wp2
  clear kc
  go_loopw [10] (fun i wr => ∃ (k : Nat) (L : List UInt8), k ≤ s.size ∧ i = .int .i64 k ∧ Hid (Cells wr g L) ∧ Hid (L = (s.data.toList.take k).map Tx.low ++ s.data.toList.drop k) ∧ Below g w wr) (fun i _ => s.size - (intOf i).toNat)
  case atStart => exact ⟨0, _, by omega, rfl, HC1, Lib.hid (by simp), HB1.out⟩
  case round =>
    obtain ⟨k, L, hk, rfl, HC, HL, HB⟩ := hrel
    clear HC1 HB1
    by_cases hlt : k < s.size
    · have hkl : k < s.data.toList.length := by rw [HS.out]; exact hlt
      have hkL : k < L.length := by rw [HL.out, lows_len]; exact hkl
      obtain ⟨x, hx⟩ : ∃ x, x = s.data.toList[k] := ⟨_, rfl⟩
      have hxL : L[k] = x := by
        have := lows_at hkl (by rw [lows_len]; exact hkl)
        simp only [← HL.out] at this
        rw [this, hx]
      have hcell := (HC.out.2 k hkL).1
      rw [hxL] at hcell
      have hfz := (HC.out.2 k hkL).2
      have hgs := HC.out.1
      cases hb : Tx.cap x with
      | true =>
        obtain ⟨_, b1, b2, b3⟩ := low_cap hb
        have co := fun W => kind_if (c := x) rfl hb rfl W
        have H : Hid (L.set k (Tx.low x) = (s.data.toList.take (k + 1)).map Tx.low ++ s.data.toList.drop (k + 1)) := Lib.hid (by rw [HL.out, hx]; exact lows_set hkl)
        have HP : Hid (∀ w1, Below wr.heap.size wr w1 → Cells (w1.setCell ⟨g, k, none⟩ (.int .u8 ((x.toNat : Int) - 65 + 97))) g (L.set k (Tx.low x))) := Lib.hid fun w1 hb => by
          rw [← b3]
          exact (HC.out.below hb).put k (Tx.low x)
        clear b3 hxL HL HC hx hb
        go_wp2_with (go_at_call 48; refine (co _).mono ?_; rintro e w1 ⟨rfl, hb1⟩; clear co; have hcell1 := (hb1.cell (p := ⟨g, k, none⟩) hgs).trans hcell; have hfz1 := (hb1.frozen (p := ⟨g, k, none⟩) hgs).trans hfz)
        go_roundw
        case rel => exact ⟨k + 1, _, by omega, by go_num, Lib.hid (HP.out _ hb1), H, (HB.trans (hb1.mono (by omega))).setCell (by simp) _⟩
        case measure => simp [intOf]; omega
      | false =>
        have co := fun W => kind_if (c := x) rfl hb rfl W
        have H : Hid (L = (s.data.toList.take (k + 1)).map Tx.low ++ s.data.toList.drop (k + 1)) := Lib.hid (by rw [HL.out]; exact lows_same hkl (by rw [← hx]; exact low_no hb))
        clear hxL HL hx hb
        go_wp2_with (go_at_call 48; refine (co _).mono ?_; rintro e w1 ⟨rfl, hb1⟩; clear co)
        go_roundw
        case rel => exact ⟨k + 1, _, by omega, by go_num, Lib.hid (HC.out.below hb1), H, HB.trans (hb1.mono (by omega))⟩
        case measure => simp [intOf]; omega
    · have hLs : L = s.data.toList.map Tx.low := by rw [HL.out, List.take_of_length_le (by rw [HS.out]; omega), List.drop_of_length_le (by rw [HS.out]; omega)]; simp
      have hlen : L.length = s.size := by rw [hLs, List.length_map, HS.out]
      have kb := run_convert_bytes_back (P := Tryd.prog) wr 25 9 5 ⟨g, 0, none⟩ cap L Tryd.underlying25 Tryd.underlying5 Tryd.underlying9 (fun j hj => by
        have := (HC.out.2 j hj).1
        unfold Addr.add
        split
        · rename_i h0; subst h0; exact this
        · simpa using this)
      rw [hlen] at kb
      have H : Hid (L = s.data.toList.map Tx.low) := Lib.hid hLs
      clear hLs hlen HL
      go_wp2
      go_ret
      exact ⟨congrArg (fun l => Ending.returned (.string (Str l))) H.out, HB⟩

/-- two texts are the same, in the walk's spelling -/
theorem same_str (s t : ByteArray) : (s.toList == t.toList) = decide (s.data.toList = t.data.toList) := by
  rw [Lib.toList_data, Lib.toList_data]
  rw [Bool.eq_iff_iff]
  simp
theorem fold_any (a b : ByteArray) (w : World) (ha : a.size ≤ 9223372036854775807) (hb : b.size ≤ 9223372036854775807) :
    Calls Tryd.prog 58 #[.string a, .string b] w fun e w' => e = .returned (.bool (decide (a.data.toList.map Tx.low = b.data.toList.map Tx.low))) ∧ Below w.heap.size w w' := by
  go_enter Tryd.func58, Tryd.ntmps58
  go_wp2_with (go_at_call 67; first | ((with_reducible refine (lower_any a _ ha).mono ?_); rintro e w1 ⟨rfl, hb1⟩) | ((with_reducible refine (lower_any b _ hb).mono ?_); rintro e w2 ⟨rfl, hb2⟩))
  go_ret
  exact ⟨ret_bool (same_str _ _), hb1.trans (hb2.mono hb1.size)⟩

/-- what stands ahead of the first byte of a kind, and what behind -/
def CutTo (l : List UInt8) (c : UInt8) (w : World) (e : Ending) (w' : World) : Prop :=
  e = .returned (.tuple #[.string (Str (Tx.cut l c).1), .string (Str (Tx.cut l c).2.1), .bool (Tx.cut l c).2.2]) ∧ Below w.heap.size w w'
theorem cutTo_of {l : List UInt8} {c : UInt8} {w w' : World} {a b : ByteArray} {f : Bool} (h : Tx.cut l c = (a.data.toList, b.data.toList, f)) (hw : Below w.heap.size w w') :
    CutTo l c w (.returned (.tuple #[.string a, .string b, .bool f])) w' := by
  unfold CutTo
  rw [h, ← str_of (t := a) rfl, ← str_of (t := b) rfl]
  exact ⟨rfl, hw⟩

set_option maxHeartbeats 1000000 in
theorem cut_any (s : ByteArray) (c : UInt8) (w : World) (hs : s.size ≤ 9223372036854775807) :
    Calls Tryd.prog 57 #[.string s, .int .u8 (c.toNat : Int)] w (CutTo s.data.toList c w) := by
  have ci := fun W => idx_any s c W
  rcases Tx.cut_cases s.data.toList c with ⟨a, b, e, hn⟩ | hn
  · have hk : a.length < s.size := by rw [← size_list, e, List.length_append, List.length_cons]; omega
    have hi : Lib.indexByte s.data.toList c = (a.length : Int) := by rw [e]; exact indexByte_at hn
    have h1 : s.data.toList.take a.length = a := by rw [e, List.take_left']; rfl
    have h2 : s.data.toList.drop (a.length + 1) = b := by rw [e, List.drop_append]; simp
    have HC : Hid (Tx.cut s.data.toList c = ((s.extract 0 a.length).data.toList, (s.extract (a.length + 1) s.size).data.toList, true)) := Lib.hid (by
      rw [extract_take, Lib.extract_to_end, h1, h2, e]
      exact Tx.cut_found hn)
    rw [hi] at ci
    obtain ⟨k, hkk⟩ : ∃ k, k = a.length := ⟨_, rfl⟩
    rw [← hkk] at ci hk HC
    clear hi h1 h2 e hn hkk
    go_enter Tryd.func57, Tryd.ntmps57
    go_wp2_with (go_at_call 61; refine (ci _).mono ?_; rintro e w1 ⟨rfl, rfl⟩; clear ci)
    go_quiet (fail)
    go_wp2
    refine bodyPost_ret (results_tmp3 rfl _ _ _) rfl ?_
    exact cutTo_of HC.out (below_drewN (Below.refl _ _) _)
  · have hi : Lib.indexByte s.data.toList c = -1 := indexByte_none hn
    have HC : Hid (Tx.cut s.data.toList c = (s.data.toList, (ByteArray.mk #[]).data.toList, false)) := Lib.hid (Tx.cut_none hn)
    rw [hi] at ci
    clear hi hn
    go_enter Tryd.func57, Tryd.ntmps57
    go_wp2_with (go_at_call 61; refine (ci _).mono ?_; rintro e w1 ⟨rfl, rfl⟩; clear ci)
    go_ret3
    exact cutTo_of HC.out (Below.refl _ _)
end Go.Proofs.YtlilkcbhlinolaaDoor
