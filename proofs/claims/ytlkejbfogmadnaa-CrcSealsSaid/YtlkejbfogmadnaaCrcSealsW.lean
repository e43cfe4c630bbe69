/-
  The walk of the statement on sealed bytes, and on any that are opened.
-/
import Derived.Test.YtlkejbfogmadnaaCrcOpen
import Derived.Test.YtlkejbfogmadnaaCrcAwake
import Derived.Test.YtlkejbfogmadnaaRefBytes
import Derived.Test.YtlkejbfogmadnaaRefSeal
namespace Go.Proofs.Ytlkejbfogmadnaa
open Go.ChangeShapes Go.WideShapes Go.ChangeAt Go.RowKit

/-- sealed bytes are opened again -/
theorem open_sealed (W : World) (g n : Nat) (l : List UInt8) (hl : l.length = n) (hn : n ≤ 2000) (hr : Row 5 W g (Cm.sealed l)) :
    Calls Try.prog 13 #[.slice (some ⟨g, 0, none⟩) (n + 4) (n + 4)] W fun e w' => e = .returned (.tuple #[.slice (some ⟨W.heap.size, 0, none⟩) n n, .int .i64 0]) ∧ Row 5 w' W.heap.size l ∧ Below W.heap.size W w' := by
  have hlen : (Cm.sealed l).length = n + 4 := by rw [Cm.sealed_length, hl]
  have hb := hr.bs (B := W.heap.size) hr.lt
  rw [hlen] at hb
  have h1 : (Cm.sealed l).take n = l := by rw [← hl]; simp [Cm.sealed]
  have h2 : (Cm.sealed l).drop n = Cm.four (Cm.sum l) := by rw [← hl]; simp [Cm.sealed]
  refine (open_any (some ⟨g, 0, none⟩) (n + 4) (n + 4) _ W.heap.size W hb (Nat.le_refl _) (by omega) (Nat.le_refl _) (by omega)).mono fun e w' ho => ?_
  have h := ho.1 (by rw [Nat.add_sub_cancel, h1, h2]; exact Cm.word_four (Cm.sum_lt l))
  rw [Nat.add_sub_cancel, h1] at h
  exact h

def ToldN (w : World) (n : Nat) (L : List UInt8) (e : Ending) (w' : World) : Prop :=
  ∃ A cap, e = .returned (.slice A n cap) ∧ Bs w' w'.heap.size A n L ∧ Below w.heap.size w w'
theorem refSeal_n (A : Option Addr) (n k c : Nat) (l : List UInt8) (B : Nat) (w : World) (hs : Bs w B A n l) (hB : B ≤ w.heap.size) (hn : n ≤ 100000) (hk : k = n + 4) :
    Calls Try.prog 15 #[.slice A n c] w (ToldN w k (Cm.sealed l)) := by
  refine (refSeal_any A n c l B w hs hB hn).mono fun e w' ⟨A2, cap, he, h1, h2, h3⟩ => ?_
  rw [Cm.sealed_length, hs.1, ← hk] at he h1
  exact ⟨A2, cap, he, h1, h3⟩

set_option maxHeartbeats 1000000 in
theorem seals_out (A D : Option Addr) (n c k d : Nat) (w : World) (h : 2000 < n ∨ (n ≤ 2000 ∧ 2000 < k)) :
    Calls Try.prog 4 #[.slice A n c, .slice D k d] w fun e w' => e = .returned (.bool true) ∧ Below w.heap.size w w' := by
  rcases h with h | ⟨h1, h2⟩
  all_goals
    go_enter Try.func4, Try.ntmps4
    go_wp2_with (go_at_call 6; refine (crcAwake_yes _).mono ?_; rintro e w' ⟨rfl, hb1⟩)
    go_ret
    exact ⟨rfl, hb1⟩

set_option maxHeartbeats 2000000 in
/-- fewer than four bytes are opened -/
theorem seals_short (A D : Option Addr) (n c k d : Nat) (l : List UInt8) (w : World) (hs : Bs w w.heap.size A n l) (hn : n ≤ 2000) (hk : k < 4) :
    Calls Try.prog 4 #[.slice A n c, .slice D k d] w fun e w' => e = .returned (.bool true) ∧ Below w.heap.size w w' := by
  have HS := Lib.hid hs
  have HL : Hid (l.length = n) := Lib.hid hs.1
  have hln : n ≤ 140737488355328 := by omega
  have hln2 : n ≤ 100000 := by omega
  have hln3 : n ≤ 9223372036854775807 := by omega
  have hln4 : n + 4 ≤ 9223372036854775807 := by omega
  have hk2 : k ≤ 2000 := by omega
  clear hs
  go_enter Try.func4, Try.ntmps4
  go_wp2_with (first
    | (go_at_call 6; refine (crcAwake_yes _).mono ?_; rintro e w1 ⟨rfl, hb1⟩
       have HS1 := Lib.hid (HS.out.below hb1))
    | (go_at_call 12; refine (seal_any A n c l w.heap.size w1 HS1.out hb1.size hln).mono ?_; rintro e w2 ⟨rfl, hr2, hb2⟩
       have HR2 := Lib.hid hr2
       clear hr2)
    | (go_at_call 13; (with_reducible refine (open_sealed _ w1.heap.size n l HL.out hn HR2.out).mono ?_); rintro e w3 ⟨rfl, hr3, hb3⟩
       have HR3 := Lib.hid hr3
       have h13 : Below w1.heap.size w1 w3 := hb2.trans (hb3.mono hb2.size)
       have HS3 := Lib.hid (HS1.out.below (h13.mono hb1.size))
       clear hr3)
    | (go_at_call 15; (with_reducible refine (refSeal_n A n (n + 4) c l w.heap.size _ HS3.out (Nat.le_trans hb1.size h13.size) hln2 rfl).mono ?_); rintro e w4 ⟨A4, c4, rfl, hs4, hb4⟩
       have HX : Hid (Bs w4 w4.heap.size A4 (n + 4) (Cm.sealed l)) := Lib.hid hs4
       have HY : Hid (Bs w4 w4.heap.size (some ⟨w1.heap.size, 0, none⟩) (n + 4) (Cm.sealed l)) := Lib.hid (by
         have := (((HR2.out.below hb3 HR2.out.lt).below hb4 (Nat.lt_of_lt_of_le HR2.out.lt hb3.size)).bs (B := w4.heap.size) (Nat.lt_of_lt_of_le HR2.out.lt (Nat.le_trans hb3.size hb4.size)))
         rwa [Cm.sealed_length, HL.out] at this)
       have HZ : Hid (Bs w4 w4.heap.size (some ⟨w2.heap.size, 0, none⟩) n l) := Lib.hid (by
         have := ((HR3.out.below hb4 HR3.out.lt).bs (B := w4.heap.size) (Nat.lt_of_lt_of_le HR3.out.lt hb4.size))
         rwa [HL.out] at this)
       have HS4 : Hid (Bs w4 w4.heap.size A n l) := Lib.hid ((HS3.out.below (hb4.mono (Nat.le_trans hb1.size h13.size))).mono (Nat.le_trans (Nat.le_trans hb1.size h13.size) hb4.size))
       have h14 : Below w.heap.size w w4 := (hb1.trans (h13.mono hb1.size)).trans (hb4.mono (Nat.le_trans hb1.size h13.size))
       clear hs4)
    | (go_at_call 14; (with_reducible refine (bytes_same (some ⟨w1.heap.size, 0, none⟩) A4 (n + 4) (n + 4) c4 w4.heap.size (Cm.sealed l) w4 HY.out HX.out hln4).mono ?_); rintro e w5 ⟨rfl, m1, rfl⟩)
    | (go_at_call 14; (with_reducible refine (bytes_same (some ⟨w2.heap.size, 0, none⟩) A n n c w4.heap.size l (w4.drewN m1) (HZ.out.drewN m1) (HS4.out.drewN m1) hln3).mono ?_); rintro e w5 ⟨rfl, m2, rfl⟩)
    | (go_at_call 13; (with_reducible refine (open_short D k d _ hk).mono ?_); rintro e w5 ⟨rfl, rfl⟩))
  go_ret
  exact ⟨rfl, below_drewN h14 _⟩
theorem open_yes (A : Option Addr) (n c : Nat) (l : List UInt8) (B g : Nat) (W : World) (hs : Bs W B A n l) (hB : B ≤ g) (h4 : 4 ≤ n) (hc : n ≤ c) (hn : n ≤ 100000) (hg : W.heap.size = g) (h : Cm.word (l.drop (n - 4)) = Cm.sum (l.take (n - 4))) :
    Calls Try.prog 13 #[.slice A n c] W fun e w' => e = .returned (.tuple #[.slice (some ⟨g, 0, none⟩) (n - 4) (n - 4), .int .i64 0]) ∧ Row 5 w' g (l.take (n - 4)) ∧ Below g W w' := by
  subst hg
  exact (open_any A n c l B W hs hB h4 hc (by omega)).mono fun e w' ho => ho.1 h
theorem open_no (A : Option Addr) (n c : Nat) (l : List UInt8) (B : Nat) (W : World) (hs : Bs W B A n l) (hB : B ≤ W.heap.size) (h4 : 4 ≤ n) (hc : n ≤ c) (hn : n ≤ 100000) (h : Cm.word (l.drop (n - 4)) ≠ Cm.sum (l.take (n - 4))) :
    Calls Try.prog 13 #[.slice A n c] W fun e w' => e = .returned (.tuple #[.slice none 0 0, .int .i64 4]) ∧ ∃ m, w' = W.drewN m :=
  (open_any A n c l B W hs hB h4 hc (by omega)).mono fun e w' ho => ho.2 h

theorem sealed_word {m : List UInt8} {k : Nat} (hm : m.length = k) (h4 : 4 ≤ k) : Cm.sealed (m.take (k - 4)) = m ↔ Cm.word (m.drop (k - 4)) = Cm.sum (m.take (k - 4)) := by
  subst hm
  exact Cm.sealed_iff h4

set_option maxHeartbeats 2000000 in
/-- sealed bytes are opened -/
theorem seals_yes (A : Option Addr) (b off n c k d : Nat) (l m : List UInt8) (w : World) (hs : Bs w w.heap.size A n l) (hn : n ≤ 2000) (ht : Bs w w.heap.size (some ⟨b, off, none⟩) k m) (h4 : 4 ≤ k) (hk : k ≤ 2000) (hd : k ≤ d) (h : Cm.word (m.drop (k - 4)) = Cm.sum (m.take (k - 4))) :
    Calls Try.prog 4 #[.slice A n c, .slice (some ⟨b, off, none⟩) k d] w fun e w' => e = .returned (.bool true) ∧ Below w.heap.size w w' := by
  have HS := Lib.hid hs
  have HL : Hid (l.length = n) := Lib.hid hs.1
  have hln : n ≤ 140737488355328 := by omega
  have hln2 : n ≤ 100000 := by omega
  have hln3 : n ≤ 9223372036854775807 := by omega
  have hln4 : n + 4 ≤ 9223372036854775807 := by omega
  have hk2 : k ≤ 100000 := by omega
  have hk3 : k - 4 ≤ 100000 := by omega
  have HK4 : Hid (k = k - 4 + 4) := Lib.hid (by omega)
  have hk5 : k ≤ 9223372036854775807 := by omega
  have hk6 : k - 4 ≤ 9223372036854775807 := by omega
  have HM : Hid (m.length = k) := Lib.hid ht.1
  have HT := Lib.hid ht
  have H := Lib.hid h
  have HSeal := sealed_word (m := m) (k := k) ht.1 h4
  have HQ := Lib.hid HSeal
  clear hs ht h HSeal
  go_enter Try.func4, Try.ntmps4
  go_wp2_with (first
    | (go_at_call 6; refine (crcAwake_yes _).mono ?_; rintro e w1 ⟨rfl, hb1⟩
       have HS1 := Lib.hid (HS.out.below hb1))
    | (go_at_call 12; refine (seal_any A n c l w.heap.size w1 HS1.out hb1.size hln).mono ?_; rintro e w2 ⟨rfl, hr2, hb2⟩
       have HR2 := Lib.hid hr2
       clear hr2)
    | (go_at_call 13; (with_reducible refine (open_sealed _ w1.heap.size n l HL.out hn HR2.out).mono ?_); rintro e w3 ⟨rfl, hr3, hb3⟩
       have HR3 := Lib.hid hr3
       have h13 : Below w1.heap.size w1 w3 := hb2.trans (hb3.mono hb2.size)
       have HS3 := Lib.hid (HS1.out.below (h13.mono hb1.size))
       clear hr3)
    | (go_at_call 15; (with_reducible refine (refSeal_n A n (n + 4) c l w.heap.size _ HS3.out (Nat.le_trans hb1.size h13.size) hln2 rfl).mono ?_); rintro e w4 ⟨A4, c4, rfl, hs4, hb4⟩
       have HX : Hid (Bs w4 w4.heap.size A4 (n + 4) (Cm.sealed l)) := Lib.hid hs4
       have HY : Hid (Bs w4 w4.heap.size (some ⟨w1.heap.size, 0, none⟩) (n + 4) (Cm.sealed l)) := Lib.hid (by
         have := (((HR2.out.below hb3 HR2.out.lt).below hb4 (Nat.lt_of_lt_of_le HR2.out.lt hb3.size)).bs (B := w4.heap.size) (Nat.lt_of_lt_of_le HR2.out.lt (Nat.le_trans hb3.size hb4.size)))
         rwa [Cm.sealed_length, HL.out] at this)
       have HZ : Hid (Bs w4 w4.heap.size (some ⟨w2.heap.size, 0, none⟩) n l) := Lib.hid (by
         have := ((HR3.out.below hb4 HR3.out.lt).bs (B := w4.heap.size) (Nat.lt_of_lt_of_le HR3.out.lt hb4.size))
         rwa [HL.out] at this)
       have HS4 : Hid (Bs w4 w4.heap.size A n l) := Lib.hid ((HS3.out.below (hb4.mono (Nat.le_trans hb1.size h13.size))).mono (Nat.le_trans (Nat.le_trans hb1.size h13.size) hb4.size))
       have h14 : Below w.heap.size w w4 := (hb1.trans (h13.mono hb1.size)).trans (hb4.mono (Nat.le_trans hb1.size h13.size))
       have HT4 : Hid (Bs w4 w.heap.size (some ⟨b, off, none⟩) k m) := Lib.hid (HT.out.below h14)
       clear hs4)
    | (go_at_call 14; (with_reducible refine (bytes_same (some ⟨w1.heap.size, 0, none⟩) A4 (n + 4) (n + 4) c4 w4.heap.size (Cm.sealed l) w4 HY.out HX.out hln4).mono ?_); rintro e w5 ⟨rfl, m1, rfl⟩)
    | (go_at_call 14; (with_reducible refine (bytes_same (some ⟨w2.heap.size, 0, none⟩) A n n c w4.heap.size l (w4.drewN m1) (HZ.out.drewN m1) (HS4.out.drewN m1) hln3).mono ?_); rintro e w5 ⟨rfl, m2, rfl⟩)
    | (go_at_call 13; (with_reducible refine (open_yes (some ⟨b, off, none⟩) k d m w.heap.size w4.heap.size (w4.drewN (m1 + m2)) (HT4.out.drewN _) h14.size h4 hd hk2 rfl H.out).mono ?_); rintro e w6 ⟨rfl, hr6, hb6⟩
       have h46 : Below w4.heap.size w4 w6 := (below_drewN (Below.refl _ _) (m1 + m2)).trans hb6
       have h16 : Below w.heap.size w w6 := h14.trans (h46.mono h14.size)
       have HR6 := Lib.hid hr6
       have HT6 : Hid (Bs w6 w.heap.size (some ⟨b, off, none⟩) k m) := Lib.hid (HT.out.below h16)
       clear hr6 hb6)
    | (go_at_call 15; (with_reducible refine (refSeal_n (some ⟨b, off, none⟩) (k - 4) k d (m.take (k - 4)) w.heap.size w6 (HT6.out.front (Nat.sub_le _ _)) h16.size hk3 HK4.out).mono ?_); rintro e w7 ⟨A7, c7, rfl, hs7, hb7⟩
       have h17 : Below w.heap.size w w7 := h16.trans (hb7.mono h16.size)
       have HU : Hid (Bs w7 w7.heap.size A7 k m) := Lib.hid (by rw [HQ.out.2 H.out] at hs7; exact hs7)
       have HV : Hid (Bs w7 w7.heap.size (some ⟨b, off, none⟩) k m) := Lib.hid ((HT.out.below h17).mono h17.size)
       have HW : Hid (Bs w7 w7.heap.size (some ⟨w4.heap.size, 0, none⟩) (k - 4) (m.take (k - 4))) := Lib.hid (by
         have := (HR6.out.below hb7 HR6.out.lt).bs (B := w7.heap.size) (Nat.lt_of_lt_of_le HR6.out.lt hb7.size)
         rwa [List.length_take, HM.out, Nat.min_eq_left (Nat.sub_le _ _)] at this)
       clear hs7)
    | (go_at_call 14; (with_reducible refine (bytes_same A7 (some ⟨b, off, none⟩) k c7 d w7.heap.size m w7 HU.out HV.out hk5).mono ?_); rintro e w8 ⟨rfl, m3, rfl⟩)
    | (go_at_call 14; (with_reducible refine (bytes_same (some ⟨w4.heap.size, 0, none⟩) (some ⟨b, off, none⟩) (k - 4) (k - 4) d w7.heap.size (m.take (k - 4)) (w7.drewN m3) (HW.out.drewN m3) ((HV.out.front (Nat.sub_le _ _)).drewN m3) hk6).mono ?_); rintro e w8 ⟨rfl, m4, rfl⟩))
  go_ret
  exact ⟨rfl, below_drewN h17 _⟩

set_option maxHeartbeats 2000000 in
/-- bytes that aren't sealed are opened -/
theorem seals_no (A : Option Addr) (b off n c k d : Nat) (l m : List UInt8) (w : World) (hs : Bs w w.heap.size A n l) (hn : n ≤ 2000) (ht : Bs w w.heap.size (some ⟨b, off, none⟩) k m) (h4 : 4 ≤ k) (hk : k ≤ 2000) (hd : k ≤ d) (h : Cm.word (m.drop (k - 4)) ≠ Cm.sum (m.take (k - 4))) :
    Calls Try.prog 4 #[.slice A n c, .slice (some ⟨b, off, none⟩) k d] w fun e w' => e = .returned (.bool true) ∧ Below w.heap.size w w' := by
  have HS := Lib.hid hs
  have HL : Hid (l.length = n) := Lib.hid hs.1
  have hln : n ≤ 140737488355328 := by omega
  have hln2 : n ≤ 100000 := by omega
  have hln3 : n ≤ 9223372036854775807 := by omega
  have hln4 : n + 4 ≤ 9223372036854775807 := by omega
  have hk2 : k ≤ 100000 := by omega
  have hk3 : k - 4 ≤ 100000 := by omega
  have HK4 : Hid (k = k - 4 + 4) := Lib.hid (by omega)
  have hk5 : k ≤ 9223372036854775807 := by omega
  have hk6 : k - 4 ≤ 9223372036854775807 := by omega
  have HM : Hid (m.length = k) := Lib.hid ht.1
  have HT := Lib.hid ht
  have H := Lib.hid h
  have HSeal := sealed_word (m := m) (k := k) ht.1 h4
  have HQ := Lib.hid HSeal
  clear hs ht h HSeal
  go_enter Try.func4, Try.ntmps4
  go_wp2_with (first
    | (go_at_call 6; refine (crcAwake_yes _).mono ?_; rintro e w1 ⟨rfl, hb1⟩
       have HS1 := Lib.hid (HS.out.below hb1))
    | (go_at_call 12; refine (seal_any A n c l w.heap.size w1 HS1.out hb1.size hln).mono ?_; rintro e w2 ⟨rfl, hr2, hb2⟩
       have HR2 := Lib.hid hr2
       clear hr2)
    | (go_at_call 13; (with_reducible refine (open_sealed _ w1.heap.size n l HL.out hn HR2.out).mono ?_); rintro e w3 ⟨rfl, hr3, hb3⟩
       have HR3 := Lib.hid hr3
       have h13 : Below w1.heap.size w1 w3 := hb2.trans (hb3.mono hb2.size)
       have HS3 := Lib.hid (HS1.out.below (h13.mono hb1.size))
       clear hr3)
    | (go_at_call 15; (with_reducible refine (refSeal_n A n (n + 4) c l w.heap.size _ HS3.out (Nat.le_trans hb1.size h13.size) hln2 rfl).mono ?_); rintro e w4 ⟨A4, c4, rfl, hs4, hb4⟩
       have HX : Hid (Bs w4 w4.heap.size A4 (n + 4) (Cm.sealed l)) := Lib.hid hs4
       have HY : Hid (Bs w4 w4.heap.size (some ⟨w1.heap.size, 0, none⟩) (n + 4) (Cm.sealed l)) := Lib.hid (by
         have := (((HR2.out.below hb3 HR2.out.lt).below hb4 (Nat.lt_of_lt_of_le HR2.out.lt hb3.size)).bs (B := w4.heap.size) (Nat.lt_of_lt_of_le HR2.out.lt (Nat.le_trans hb3.size hb4.size)))
         rwa [Cm.sealed_length, HL.out] at this)
       have HZ : Hid (Bs w4 w4.heap.size (some ⟨w2.heap.size, 0, none⟩) n l) := Lib.hid (by
         have := ((HR3.out.below hb4 HR3.out.lt).bs (B := w4.heap.size) (Nat.lt_of_lt_of_le HR3.out.lt hb4.size))
         rwa [HL.out] at this)
       have HS4 : Hid (Bs w4 w4.heap.size A n l) := Lib.hid ((HS3.out.below (hb4.mono (Nat.le_trans hb1.size h13.size))).mono (Nat.le_trans (Nat.le_trans hb1.size h13.size) hb4.size))
       have h14 : Below w.heap.size w w4 := (hb1.trans (h13.mono hb1.size)).trans (hb4.mono (Nat.le_trans hb1.size h13.size))
       have HT4 : Hid (Bs w4 w.heap.size (some ⟨b, off, none⟩) k m) := Lib.hid (HT.out.below h14)
       clear hs4)
    | (go_at_call 14; (with_reducible refine (bytes_same (some ⟨w1.heap.size, 0, none⟩) A4 (n + 4) (n + 4) c4 w4.heap.size (Cm.sealed l) w4 HY.out HX.out hln4).mono ?_); rintro e w5 ⟨rfl, m1, rfl⟩)
    | (go_at_call 14; (with_reducible refine (bytes_same (some ⟨w2.heap.size, 0, none⟩) A n n c w4.heap.size l (w4.drewN m1) (HZ.out.drewN m1) (HS4.out.drewN m1) hln3).mono ?_); rintro e w5 ⟨rfl, m2, rfl⟩)
    | (go_at_call 13; have co := open_no (some ⟨b, off, none⟩) k d m w.heap.size (w4.drewN (m1 + m2)) (HT4.out.drewN _) h14.size h4 hd hk2 H.out; (with_reducible refine co.mono ?_); rintro e w6 ⟨rfl, m3, rfl⟩; clear co)
    | (go_at_call 15; have co := refSeal_n (some ⟨b, off, none⟩) (k - 4) k d (m.take (k - 4)) w.heap.size (w4.drewN (m1 + m2 + m3)) ((HT4.out.front (Nat.sub_le _ _)).drewN _) h14.size hk3 HK4.out; (with_reducible refine co.mono ?_); rintro e w7 ⟨A7, c7, rfl, hs7, hb7⟩; clear co
       have h17 : Below w.heap.size w w7 := (below_drewN h14 (m1 + m2 + m3)).trans (hb7.mono h14.size)
       have HU : Hid (Bs w7 w7.heap.size A7 k (Cm.sealed (m.take (k - 4)))) := Lib.hid hs7
       have HV : Hid (Bs w7 w7.heap.size (some ⟨b, off, none⟩) k m) := Lib.hid ((HT.out.below h17).mono h17.size)
       clear hs7)
    | (go_at_call 14; have co := bytes_other A7 (some ⟨b, off, none⟩) k c7 d w7.heap.size (Cm.sealed (m.take (k - 4))) m w7 HU.out HV.out hk5 (fun e => H.out (HQ.out.1 e)); (with_reducible refine co.mono ?_); rintro e w8 ⟨rfl, m4, rfl⟩; clear co))
  go_ret
  exact ⟨rfl, below_drewN h17 _⟩

/-- for every argument -/
theorem seals_walk (A : Option Addr) (n c : Nat) (l : List UInt8) (D : Option Addr) (k d : Nat) (m : List UInt8) (w : World) (hs : Bs w w.heap.size A n l) (_ : n ≤ c) (ht : Bs w w.heap.size D k m) (hd : k ≤ d) :
    Calls Try.prog 4 #[.slice A n c, .slice D k d] w fun e w' => e = .returned (.bool true) ∧ Below w.heap.size w w' := by
  by_cases h : n ≤ 2000 ∧ k ≤ 2000
  · obtain ⟨h1, h2⟩ := h
    by_cases h4 : 4 ≤ k
    · obtain ⟨b, off, rfl, _, _⟩ := ht.2 (by omega)
      by_cases hw : Cm.word (m.drop (k - 4)) = Cm.sum (m.take (k - 4))
      · exact seals_yes A b off n c k d l m w hs h1 ht h4 h2 hd hw
      · exact seals_no A b off n c k d l m w hs h1 ht h4 h2 hd hw
    · exact seals_short A D n c k d l w hs h1 (by omega)
  · exact seals_out A D n c k d w (by omega)
end Go.Proofs.Ytlkejbfogmadnaa
