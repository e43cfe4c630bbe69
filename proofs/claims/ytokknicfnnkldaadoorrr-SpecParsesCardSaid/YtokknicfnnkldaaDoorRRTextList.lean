/-
  Contract of text.List: the elements of a list, or that it is none.
-/
import Derived.Test.YtokknicfnnkldaaDoorRRListed
import Derived.Test.YtokknicfnnkldaaDoorRRStrs
import Derived.OwnWalk
namespace Go.Proofs.YtokknicfnnkldaaDoorRR
open Go.ChangeShapes Go.WideShapes Go.ChangeAt Go.RowKit

/-- a row of texts, and whether it counts -/
def Gives (L : List (List UInt8)) (b : Bool) (w : World) (e : Ending) (w' : World) : Prop :=
  ∃ A n c, e = .returned (.tuple #[.slice A n c, .bool b]) ∧ Vs w' w'.heap.size A n (strs L) ∧ n ≤ c ∧ Below w.heap.size w w'
theorem gives_nil (b : Bool) (w : World) {w' : World} (hb : Below w.heap.size w w') : Gives [] b w (.returned (.tuple #[.slice none 0 0, .bool b])) w' :=
  ⟨none, 0, 0, rfl, Vs.nil _ _ _, Nat.le_refl _, hb⟩
theorem gives_own {base : Nat} {T : TypeId} {v : Value} {n : Nat} {L M : List (List UInt8)} {w w' : World} (h : w'.ownsRow base T 1 v n (strs L)) (hL : L = M) (hb : Below w.heap.size w w') : Gives M true w (.returned (.tuple #[v, .bool true])) w' := by
  subst hL
  obtain ⟨A, c, rfl, h1, h2⟩ := Vs.of_own h
  exact ⟨A, n, c, rfl, h1, h2, hb⟩

theorem list_no (s : ByteArray) (w : World) (hs : s.size ≤ 9223372036854775807) (h : Tx.listed s.data.toList = false) :
    Calls Tryd.prog 20 #[.string s] w (Gives [] false w) := by
  have cl := fun W => listed_any s W hs
  rw [h] at cl
  clear h
  go_enter Tryd.func20, Tryd.ntmps20
  go_wp2_with (go_at_call 30; refine (cl _).mono ?_; rintro e w1 ⟨rfl, hb⟩; clear cl)
  go_ret2
  exact gives_nil _ _ hb

def boolN : Value → Nat
  | .bool true => 1
  | _ => 0

/-- what is still to come -/
def rest (more : Bool) (r : ByteArray) : List (List UInt8) := if more = true then Tx.elems r.data.toList else []

theorem str_info : (Tryd.prog.info? 9).map (fun i => (i.zero, i.size, i.bytes)) = some (some (.string ⟨#[]⟩), 1, 16) := by kernel_rfl
theorem str_parts : ∃ i, Tryd.prog.info? 9 = some i ∧ i.zero = some (.string ⟨#[]⟩) ∧ i.size = 1 ∧ i.bytes = 16 := by
  have h := str_info
  cases hi : Tryd.prog.info? 9 with
  | none => rw [hi] at h; cases h
  | some i =>
    rw [hi] at h
    simp only [Option.map_some, Option.some.injEq, Prod.mk.injEq] at h
    exact ⟨i, rfl, h.1, h.2.1, h.2.2⟩
theorem len_pos_of {l : List UInt8} (h : ¬ l = []) : 0 < l.length := List.length_pos_iff.2 h
theorem str_nil {l : List UInt8} (h : l = []) : (Str l).toList.isEmpty = true := isEmpty_of h
theorem str_full {l : List UInt8} (h : ¬ l = []) : (Str l).toList.isEmpty = false := isEmpty_no (by rw [str_size]; exact len_pos_of h)
/-- one text, just made, to append -/
theorem one_made (w : World) (x : ByteArray) (t : TypeId) (fr : Nat × Nat) : Vs (w.alloc (.cells #[.string x] t fr)) (w.heap.size + 1) (some ⟨w.heap.size, 0, none⟩) 1 (strs [x.data.toList]) := by
  have := Vs.new w t fr #[.string x]
  have e : strs [x.data.toList] = [.string x] := by
    show [Value.string (Str x.data.toList)] = _
    rw [← str_of (t := x) rfl]
  rw [e]
  exact this

/-- the round's work on what is still to come: a part, cut off -/
theorem rest_cut {r : ByteArray} {a b : List UInt8} {m : Bool} (h : Tx.cut r.data.toList 44 = (a, b, m)) : rest true r = Tx.pick [a] ++ rest m (Str b) := by
  unfold rest
  rw [if_pos rfl]
  cases m with
  | true => rw [if_pos rfl, Tx.elems_cut_yes h]; rfl
  | false => rw [if_neg (by simp), List.append_nil, Tx.elems_cut_no h]
theorem rest_size {r : ByteArray} {a b : List UInt8} {m : Bool} (h : Tx.cut r.data.toList 44 = (a, b, m)) : b.length + m.toNat ≤ r.size := by
  rw [← size_list]
  rcases Tx.cut_cases r.data.toList 44 with ⟨a', b', e, hn⟩ | hn
  · rw [e, Tx.cut_found hn] at h
    simp only [Prod.mk.injEq] at h
    obtain ⟨_, rfl, rfl⟩ := h
    rw [e]
    simp
  · rw [Tx.cut_none hn] at h
    simp only [Prod.mk.injEq] at h
    obtain ⟨_, rfl, rfl⟩ := h
    simp

theorem own_below {w w' : World} {base : Nat} {T : TypeId} {v : Value} {n : Nat} {xs : List Value} (h : w.ownsRow base T 1 v n xs) (hb : Below w.heap.size w w') : w'.ownsRow base T 1 v n xs :=
  h.kept (row := none) ⟨hb.os, hb.tape, hb.output, hb.size, fun k hk _ => hb.block k hk⟩ (Classical.em _)

set_option maxHeartbeats 4000000 in
theorem list_yes (s : ByteArray) (w : World) (hs : s.size ≤ 1000000) (h : Tx.listed s.data.toList = true) :
    Calls Tryd.prog 20 #[.string s] w (Gives (Tx.elems s.data.toList) true w) := by
  have cl := fun W => listed_any s W (by omega)
  rw [h] at cl
  clear h
  obtain ⟨i0, hi, hz, hsz, hby⟩ := str_parts
  have HI := Lib.hid hi; have HZ := Lib.hid hz; have HSZ := Lib.hid hsz; have HBY := Lib.hid hby
  clear hi hz hsz hby
  go_enter Tryd.func20, Tryd.ntmps20
  go_wp2_with (go_at_call 30; refine (cl _).mono ?_; rintro e w1 ⟨rfl, hb⟩; clear cl)
  go_loopw [4, 6, 7] (fun v sr sm wr => ∃ (m : Bool) (r : ByteArray) (n : Nat) (L : List (List UInt8)), sr = .string r ∧ sm = .bool m ∧ n + r.size ≤ 1000000 + 1 ∧ r.size ≤ 1000000 ∧ (m = true → n + r.size ≤ 1000000) ∧ Hid (wr.ownsRow w.heap.size 9 1 v n (strs L)) ∧ Hid (L ++ rest m r = Tx.elems s.data.toList) ∧ Below w.heap.size w wr) (fun _ sr sm _ => strSize sr + boolN sm)
  case atStart => exact ⟨true, s, 0, [], rfl, rfl, by omega, hs, by omega, Lib.hid (World.ownsRow_nil _ _ _ _), Lib.hid rfl, hb⟩
  case round =>
    obtain ⟨m, r, n, L, rfl, rfl, hn1, hr, hn2, HO, HE, HB⟩ := hrel
    clear hb
    cases m with
    | false =>
      have H : Hid (L = Tx.elems s.data.toList) := Lib.hid (by rw [← HE.out]; unfold rest; simp)
      clear HE hn2
      go_wp2
      go_ret2
      exact gives_own HO.out H.out HB
    | true =>
      have hn := hn2 rfl
      clear hn2
      obtain ⟨⟨a, b, m⟩, hc⟩ : ∃ p, Tx.cut r.data.toList 44 = p := ⟨_, rfl⟩
      have hsz := rest_size hc
      have H1 : Hid (L ++ (Tx.pick [a] ++ rest m (Str b)) = Tx.elems s.data.toList) := Lib.hid (by rw [← rest_cut hc]; exact HE.out)
      have cc : ∀ W, Calls Tryd.prog 17 #[.string r, .int .u8 44] W fun e w' => e = .returned (.tuple #[.string (Str a), .string (Str b), .bool m]) ∧ Below W.heap.size W w' := fun W => by
        have := cut_any r 44 W (by omega)
        unfold CutTo at this
        rwa [hc] at this
      have hal : a.length ≤ 1000000 := by
        have : a.length ≤ r.data.toList.length := by
          rcases Tx.cut_cases r.data.toList 44 with ⟨a', b', e, hn'⟩ | hn'
          · rw [e, Tx.cut_found hn'] at hc
            obtain ⟨rfl, _, _⟩ : a' = a ∧ b' = b ∧ true = m := by simpa using hc
            rw [e]; simp
          · rw [Tx.cut_none hn'] at hc
            obtain ⟨rfl, _, _⟩ : r.data.toList = a ∧ [] = b ∧ false = m := by simpa using hc
            exact Nat.le_refl _
        rw [size_list] at this
        omega
      have ct : ∀ W, Calls Tryd.prog 18 #[.string (Str a)] W fun e w' => e = .returned (.string (Str (Tx.trim a))) ∧ Below W.heap.size W w' := fun W => trim_any (Str a) W (by rw [str_size]; omega)
      have hmn : m.toNat ≤ 1 := by cases m <;> decide
      have hbm : boolN (.bool m) = m.toNat := by cases m <;> rfl
      have HM : Hid (boolN (.bool m) = m.toNat) := Lib.hid hbm
      have hb1 : (Str b).size + m.toNat ≤ r.size := hsz
      have HMM : Hid (m = true → n + 1 + (Str b).size ≤ 1000000) := Lib.hid fun e => by
        have : m.toNat = 1 := by rw [e]; rfl
        omega
      clear hc HE hsz hbm
      by_cases hx : Tx.trim a = []
      · have hl := str_nil hx
        have H2 : Hid (L ++ rest m (Str b) = Tx.elems s.data.toList) := Lib.hid (by rw [← H1.out, Tx.pick_one, if_pos hx]; rfl)
        clear hx H1
        go_wp2_with (first
          | (go_at_call 17; refine (cc _).mono ?_; rintro e w2 ⟨rfl, hb2⟩)
          | (go_at_call 18; refine (ct _).mono ?_; rintro e w3 ⟨rfl, hb3⟩))
        go_roundw
        case rel =>
          have hb23 := hb2.trans (hb3.mono hb2.size)
          exact ⟨m, Str b, n, L, rfl, rfl, by omega, by omega, fun e => Nat.le_of_succ_le (by have := HMM.out e; omega), Lib.hid (own_below HO.out hb23), H2, HB.trans (hb23.mono HB.size)⟩
        case measure =>
          show (Str b).size + boolN (.bool m) < r.size + 1
          rw [HM.out]; omega
      · have hl := str_full hx
        have H2 : Hid (L ++ [Tx.trim a] ++ rest m (Str b) = Tx.elems s.data.toList) := Lib.hid (by rw [← H1.out, Tx.pick_one, if_neg hx, List.append_assoc])
        clear hx H1
        go_wp2_with (first
          | (go_at_call 17; refine (cc _).mono ?_; rintro e w2 ⟨rfl, hb2⟩)
          | (go_at_call 18; refine (ct _).mono ?_; rintro e w3 ⟨rfl, hb3⟩; have HO3 := Lib.hid (own_below (own_below HO.out hb2) hb3); have HB3 := (HB.trans (hb2.mono HB.size)).trans (hb3.mono (Nat.le_trans HB.size hb2.size)); have hsz3 := HB3.size)
          | (refine wpList_append_vals (o := ⟨some 27, _, _, _, _, _⟩) rfl (.tmp 24) (.tmp 26) 34 rfl w.heap.size 9 i0 (.string ⟨#[]⟩) 16 Tryd.underlying34 HI.out HZ.out HSZ.out HBY.out rfl _ n (strs L) rfl (HO3.out.alloc _) (w3.heap.size + 1) (some ⟨w3.heap.size, 0, none⟩) 1 1 (strs [Tx.trim a]) rfl (one_made w3 (Str (Tx.trim a)) _ _) (strs_one _) (by omega) (by omega) (HB3.alloc hsz3 _).size ?_
             intro v1 w4 HO4 HG4))
        go_roundw
        case rel => exact ⟨m, Str b, n + 1, L ++ [Tx.trim a], rfl, rfl, by omega, by omega, HMM.out, Lib.hid (by rw [← strs_append]; exact HO4.out), H2, (HB3.alloc hsz3 _).grown HG4.out (HB3.alloc hsz3 _).size (fun k h => (HO.out.lt k h).1)⟩
        case measure =>
          show (Str b).size + boolN (.bool m) < r.size + 1
          rw [HM.out]; omega
end Go.Proofs.YtokknicfnnkldaaDoorRR
