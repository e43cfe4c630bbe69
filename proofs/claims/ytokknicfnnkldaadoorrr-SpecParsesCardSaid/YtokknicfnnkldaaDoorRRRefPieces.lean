/-
  Contract of the document's own Pieces: the parts of a text, cut at its commas.
-/
import Derived.Test.YtokknicfnnkldaaDoorRRTextList
import Derived.Test.YtokknicfnnkldaaDoorRRRefLower
import Derived.BigRegion
import Derived.OneCell
import Derived.Deep.AppendLies
import Derived.IntWalk
namespace Go.Proofs.YtokknicfnnkldaaDoorRR
open Go.ChangeShapes Go.WideShapes Go.ChangeAt Go.RowKit

/-- a row of texts -/
def GivesRow (L : List (List UInt8)) (w : World) (e : Ending) (w' : World) : Prop :=
  ∃ A n c, e = .returned (.slice A n c) ∧ Vs w' w'.heap.size A n (strs L) ∧ n ≤ c ∧ Below w.heap.size w w'
theorem parts_len (l : List UInt8) : (Tx.parts l).length ≤ l.length + 1 := by
  induction l with
  | nil => exact Nat.le_refl _
  | cons x l ih =>
    by_cases hx : x = 44
    · subst hx; rw [Tx.parts_c44, List.length_cons, List.length_cons]; omega
    · cases hp : Tx.parts l with
      | nil => exact absurd hp (Tx.parts_ne l)
      | cons p ps =>
        rw [Tx.parts_cons hx hp, List.length_cons, List.length_cons]
        rw [hp, List.length_cons] at ih
        omega
theorem parts_mem_len {l p : List UInt8} (h : p ∈ Tx.parts l) : p.length ≤ l.length := by
  induction l generalizing p with
  | nil =>
    obtain rfl : p = [] := by simpa [Tx.parts] using h
    exact Nat.le_refl _
  | cons x l ih =>
    by_cases hx : x = 44
    · subst hx
      rw [Tx.parts_c44] at h
      rcases List.mem_cons.1 h with rfl | h
      · simp
      · have := ih h
        rw [List.length_cons]; omega
    · cases hp : Tx.parts l with
      | nil => exact absurd hp (Tx.parts_ne l)
      | cons q qs =>
        rw [Tx.parts_cons hx hp] at h
        rcases List.mem_cons.1 h with rfl | h
        · have := ih (p := q) (by rw [hp]; exact List.mem_cons_self ..)
          rw [List.length_cons, List.length_cons]; omega
        · have := ih (p := p) (by rw [hp]; exact List.mem_cons_of_mem _ h)
          rw [List.length_cons]; omega
theorem parts_comma_end (l : List UInt8) : Tx.parts (l ++ [44]) = Tx.parts l ++ [[]] := by rw [Tx.parts_comma l []]; rfl

set_option maxHeartbeats 4000000 in
theorem pieces_any (s : ByteArray) (w : World) (hs : s.size ≤ 1000000) :
    Calls Tryd.prog 14 #[.string s, .bool false] w (GivesRow (Tx.parts s.data.toList) w) := by
  obtain ⟨i0, hi, hz, hsz, hby⟩ := str_parts
  have HI := Lib.hid hi; have HZ := Lib.hid hz; have HSZ := Lib.hid hsz; have HBY := Lib.hid hby
  have hconv : ∀ (b : Int) (w : World), (convert 52 9 (.slice (some ⟨w.heap.size, 0, none⟩) 1 1)).run Tryd.prog (w.alloc (.cells #[.int .u8 b] 5)).drew = .ok (.string ⟨#[UInt8.ofNat b.toNat]⟩) (w.alloc (.cells #[.int .u8 b] 5)).drew := fun b w => conv_byte b w.drew
  clear hi hz hsz hby
  go_enter Tryd.func14, Tryd.ntmps14
  go_wp2
  go_loopw [5, 6, 7] (fun v o i wr => ∃ (k g q cap : Nat) (L : List (List UInt8)), i = .int .i64 k ∧ o = .bool false ∧ v = .slice (some ⟨g, 0, none⟩) (q + 1) cap ∧ k ≤ s.size ∧ q ≤ k ∧ Hid (wr.ownsRow w.heap.size 9 1 (.slice (some ⟨g, 0, none⟩) (q + 1) cap) (q + 1) (strs L)) ∧ Hid (L = Tx.parts (s.data.toList.take k)) ∧ Below w.heap.size w wr) (fun _ _ i _ => s.size - (intOf i).toNat)
  case atStart => exact ⟨0, _, 0, _, [[]], rfl, rfl, rfl, by omega, by omega, Lib.hid (World.ownsRow_lit (base := w.heap.size) (size := 1) (e := 9) w #[.string ⟨#[]⟩] 1 (Nat.le_refl _) (by decide) rfl), Lib.hid rfl, (Below.refl _ _).alloc (Nat.le_refl _) _⟩
  case round =>
    obtain ⟨k, g, q, cap, L, rfl, rfl, rfl, hk, hq, HO, HL, HB⟩ := hrel
    by_cases hlt : k < s.size
    · by_cases h44 : s[k] = 44
      · have t1 : ((s[k].toNat : Int) == 34) = false := by rw [h44]; rfl
        have t2 : ((s[k].toNat : Int) == 44) = true := by rw [h44]; rfl
        have HL2 : Hid (L ++ [[]] = Tx.parts (s.data.toList.take (k + 1))) := Lib.hid (by rw [take_snoc s k hlt, h44, parts_comma_end, HL.out])
        have hsz1 := HB.size
        clear h44 HL
        go_wp2_with (first
          | (refine wpList_append_vals (o := ⟨some 34, _, _, _, _, _⟩) rfl (.tmp 32) (.tmp 33) 34 rfl w.heap.size 9 i0 (.string ⟨#[]⟩) 16 Tryd.underlying34 HI.out HZ.out HSZ.out HBY.out rfl _ (q + 1) (strs L) rfl (HO.out.alloc _) (wr.heap.size + 1) (some ⟨wr.heap.size, 0, none⟩) 1 1 (strs [[]]) rfl (one_made wr ⟨#[]⟩ _ _) (strs_one _) (by omega) (by omega) (HB.alloc hsz1 _).size ?_
             intro v1 w4 HO4 HG4))
        obtain ⟨g', cap', rfl, _, _⟩ := World.ownsRow.form HO4.out (by omega)
        go_roundw
        case rel => exact ⟨k + 1, g', q + 1, cap', L ++ [[]], by go_num, rfl, rfl, by omega, by omega, Lib.hid (by rw [← strs_append]; exact HO4.out), HL2, (HB.alloc hsz1 _).grown HG4.out (HB.alloc hsz1 _).size (fun k h => (HO.out.lt k h).1)⟩
        case measure => simp [intOf]; omega
      · have t2 : ((s[k].toNat : Int) == 44) = false := by
          rw [beq_eq_false_iff_ne]
          intro e
          exact h44 (UInt8.toNat_inj.1 (by have : (44 : UInt8).toNat = 44 := rfl; omega))
        obtain ⟨t1b, t1⟩ : ∃ b, ((s[k].toNat : Int) == 34) = b := ⟨_, rfl⟩
        have hq1 : q < L.length := by have := HO.out.1; rw [strs_length] at this; omega
        obtain ⟨init, last, hp⟩ := Tx.parts_last (s.data.toList.take k)
        have hL : L = init ++ [last] := by rw [HL.out, hp]
        have hqi : init.length = q := by have := HO.out.1; rw [strs_length, hL, List.length_append] at this; simp at this; omega
        have hcell : wr.cell? ⟨g, q, none⟩ = some (.string (Str last)) := by
          rw [HO.out.cellAt q (by omega), List.getElem?_eq_getElem (by rw [strs_length]; exact hq1), strs_get _ _ _ hq1]
          simp [hL, hqi]
        have hfz : wr.frozen? ⟨g, q, none⟩ = false := HO.out.frozenAt q
        have hgs : g < wr.heap.size := (HO.out.lt g rfl).2
        have hw1 : IntKind.i64.wrap (((q + 1 : Nat) : Int) - 1) = (q : Int) := by rw [IntWalk.i64_in _ (by omega)]; omega
        have HL2 : Hid (init ++ [last ++ [s[k]]] = Tx.parts (s.data.toList.take (k + 1))) := Lib.hid (by rw [take_snoc s k hlt, Tx.parts_snoc h44 hp])
        have hls : (Str last).size + 1 ≤ 9223372036854775807 := by
          have := parts_mem_len (l := s.data.toList.take k) (p := last) (by rw [hp]; simp)
          rw [List.length_take] at this
          rw [str_size]; omega
        have HS : Hid ((strs L).set q (.string (Str last ++ ByteArray.mk #[s[k]])) = strs (init ++ [last ++ [s[k]]])) := Lib.hid (by
          rw [str_of (t := Str last ++ ByteArray.mk #[s[k]]) (l := last ++ [s[k]]) (by rw [cat_str, str_list]), hL, ← hqi]
          simp [strs, List.set_append_right])
        have HG : Hid (w.heap.size ≤ g) := Lib.hid (HO.out.lt g rfl).1
        clear h44 HL hp hL hqi hq1
        cases t1b
        all_goals
          go_wp2
          go_region
          go_wp2
          go_roundw
          case rel => exact ⟨k + 1, g, q, cap, init ++ [last ++ [s[k]]], by go_num, rfl, rfl, by omega, by omega, Lib.hid (by rw [← HS.out]; exact ((HO.out.stored q _).1.alloc _).drew), HL2, ((HB.setCell (p := ⟨g, q, none⟩) HG.out _).alloc (by rw [World.size_setCell]; exact HB.size) _).drew⟩
          case measure => simp [intOf]; omega
    · have H : Hid (L = Tx.parts s.data.toList) := Lib.hid (by rw [HL.out, List.take_of_length_le (by rw [size_list]; omega)])
      clear HL
      go_wp2
      go_ret
      obtain ⟨A, c, e, h1, h2⟩ := Vs.of_own HO.out
      exact ⟨A, q + 1, c, congrArg Ending.returned e, by rw [← H.out]; exact h1, h2, HB⟩
end Go.Proofs.YtokknicfnnkldaaDoorRR
