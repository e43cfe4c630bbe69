/-
  The document's number: bytes as a number, the highest first.
  Contract of the document's own Seal.
  The document's Lay: so many bytes of a number, the highest first.
  The document's Frame: a record's bytes.
-/
import Derived.Test.YtndbjdnfibpicaaRMFrame
import Derived.Test.YtndbjdnfibpicaaRMBytes
import Derived.Test.YtndbjdnfibpicaaRChecked
import Derived.LoopTactic
import Derived.IntWalk
import Derived.Tactics
import Derived.Lib.Hide
import Derived.ChangeArms
import Derived.Test.YtndbjdnfibpicaaRMCrc
import Derived.Test.YtndbjdnfibpicaaRCrcSeal
section
namespace Go.Proofs.YtndbjdnfibpicaaR
open Go.RowKit
set_option maxRecDepth 100000

end Go.Proofs.YtndbjdnfibpicaaR
end
section
namespace Go.Proofs.YtndbjdnfibpicaaR
open Go.ChangeShapes Go.WideShapes Go.ChangeAt Go.RowKit
set_option maxRecDepth 100000

/-- some slice that reads as these bytes; nothing that was there has turned -/
def Told (w : World) (L : List UInt8) (e : Ending) (w' : World) : Prop :=
  ∃ A cap, e = .returned (.slice A L.length cap) ∧ Bs w' w'.heap.size A L.length L ∧ L.length ≤ cap ∧ Below w.heap.size w w'

/-- and it is new -/
def ToldNew (w : World) (L : List UInt8) (e : Ending) (w' : World) : Prop :=
  ∃ A cap, e = .returned (.slice A L.length cap) ∧ Bs w' w'.heap.size A L.length L ∧ L.length ≤ cap ∧ Below w.heap.size w w' ∧ ∀ a : Addr, A = some a → w.heap.size ≤ a.block
theorem ToldNew.told {w w' : World} {L : List UInt8} {e : Ending} (h : ToldNew w L e w') : Told w L e w' := by
  obtain ⟨A, cap, h1, h2, h3, h4, -⟩ := h
  exact ⟨A, cap, h1, h2, h3, h4⟩
theorem four_block (w : World) (s : Nat) (T : TypeId) :
    Bs (w.alloc (.cells #[.int .u8 ((s : Int) % 256), .int .u8 ((s : Int) / 256 % 256), .int .u8 ((s : Int) / 65536 % 256), .int .u8 ((s : Int) / 16777216 % 256)] T)) (w.heap.size + 1) (some ⟨w.heap.size, 0, none⟩) 4 (Cm.four s) := by
  refine ⟨rfl, fun _ => ⟨w.heap.size, 0, rfl, by omega, fun j hj => ?_⟩⟩
  rw [World.cell?_alloc_new]
  have h0 : (s : Int) % 256 = ((Cm.low s 0).toNat : Int) := by rw [← low_int, Int.pow_zero, Int.ediv_one]
  have h1 : (s : Int) / 256 % 256 = ((Cm.low s 8).toNat : Int) := by rw [← low_int]; rfl
  have h2 : (s : Int) / 65536 % 256 = ((Cm.low s 16).toNat : Int) := by rw [← low_int]; rfl
  have h3 : (s : Int) / 16777216 % 256 = ((Cm.low s 24).toNat : Int) := by rw [← low_int]; rfl
  rw [h0, h1, h2, h3]
  match j, hj with
  | 0, _ => rfl
  | 1, _ => rfl
  | 2, _ => rfl
  | 3, _ => rfl

set_option maxHeartbeats 400000 in
theorem refSeal_new (A : Option Addr) (n c : Nat) (l : List UInt8) (B : Nat) (w : World) (hs : Bs w B A n l) (hB : B ≤ w.heap.size) (hn : n ≤ 100000) :
    Calls Try.prog 72 #[.slice A n c] w (ToldNew w (Cm.sealed l)) := by
  obtain ⟨i0, hi, hz, hsz, hby⟩ := info_parts u8_info
  have HI := Lib.hid hi
  have HZ := Lib.hid hz
  have HSZ := Lib.hid hsz
  have HBY := Lib.hid hby
  have HS := Lib.hid hs
  have hln : n ≤ 9223372036854775807 := by omega
  clear hi hz hsz hby hs
  go_enter Try.func72, Try.ntmps72
  go_wp2_with (first
    | (refine wpList_append_bytes (o := ⟨some 7, _, _, _, _, _⟩) rfl (.tmp 5) (.tmp 6) 54 rfl w.heap.size 5 i0 Try.underlying54 HI.out HZ.out HSZ.out HBY.out (.slice none 0 0) 0 [] rfl (World.ownsRow_nil _ _ _ _) B A n c l rfl HS.out (by omega) (Nat.le_refl _) ?_
       intro v1 w1 HO1 HG1
       have hb1 : Below w.heap.size w w1 := (Below.refl _ _).grown HG1.out (Nat.le_refl _) (by simp [Value.ownBlock]))
    | (go_at_call 79; refine (refSum_any A n c l B _ (HS.out.below (hb1.mono hB)) hln).mono ?_; rintro e w' ⟨rfl, rfl⟩)
    | (refine wpList_append_bytes (o := ⟨some 23, _, _, _, _, _⟩) rfl (.tmp 10) (.tmp 22) 54 rfl w.heap.size 5 i0 Try.underlying54 HI.out HZ.out HSZ.out HBY.out v1 (0 + n) ([] ++ l) rfl (HO1.out.alloc _) (w1.heap.size + 1) (some ⟨w1.heap.size, 0, none⟩) 4 4 (Cm.four (Cm.sum l)) rfl (four_block w1 (Cm.sum l) _) (by omega) ((hb1.alloc hb1.size _).size) ?_
       intro v2 w2 HO2 HG2))
  go_ret
  obtain ⟨A2, c2, rfl, hb2, hc2⟩ := own_bs HO2.out
  have hnew : ∀ a : Addr, A2 = some a → w.heap.size ≤ a.block := fun a ha => by
    subst ha
    exact (HO2.out.lt _ rfl).1
  have e1 : 0 + n + 4 = (Cm.sealed l).length := by rw [Cm.sealed_length, HS.out.1]; omega
  have e2 : ([] ++ l) ++ Cm.four (Cm.sum l) = Cm.sealed l := rfl
  rw [e1, e2] at hb2
  rw [e1] at hc2
  rw [e1]
  refine ⟨A2, c2, rfl, hb2, hc2, ?_, hnew⟩
  refine (hb1.alloc hb1.size _).grown HG2.out ((hb1.alloc hb1.size _).size) fun k hk => ?_
  exact (HO1.out.lt k hk).1
theorem refSeal_any (A : Option Addr) (n c : Nat) (l : List UInt8) (B : Nat) (w : World) (hs : Bs w B A n l) (hB : B ≤ w.heap.size) (hn : n ≤ 100000) :
    Calls Try.prog 72 #[.slice A n c] w (Told w (Cm.sealed l)) :=
  (refSeal_new A n c l B w hs hB hn).mono fun _ _ h => h.told
end Go.Proofs.YtndbjdnfibpicaaR
end
section
namespace Go.Proofs.YtndbjdnfibpicaaR
open Go.ChangeShapes Go.WideShapes Go.ChangeAt Go.RowKit
set_option maxRecDepth 100000

/-- one byte, just made -/
theorem byte_block (w : World) (x : UInt8) (T : TypeId) : Bs (w.alloc (.cells #[.int .u8 (x.toNat : Int)] T)) (w.heap.size + 1) (some ⟨w.heap.size, 0, none⟩) 1 [x] := by
  refine ⟨rfl, fun _ => ⟨w.heap.size, 0, rfl, by omega, fun j hj => ?_⟩⟩
  obtain rfl : j = 0 := by simpa using hj
  rw [World.cell?_alloc_new]
  rfl
theorem be_front (N : Nat) {count r : Nat} (h : r < count) : (Fm.be N count).take (count - (r + 1)) ++ [UInt8.ofNat (N / 2 ^ (8 * r))] = (Fm.be N count).take (count - r) := by
  induction count with
  | zero => omega
  | succ k ih =>
    by_cases hr : r = k
    · subst hr
      rw [Nat.sub_self, List.take_zero, show r + 1 - r = 1 by omega]
      rfl
    · have h1 : r < k := by omega
      have e1 : k + 1 - (r + 1) = (k - (r + 1)) + 1 := by omega
      have e2 : k + 1 - r = (k - r) + 1 := by omega
      rw [e1, e2]
      unfold Fm.be
      rw [List.take_succ_cons, List.take_succ_cons, List.cons_append, ih h1]
set_option maxHeartbeats 2000000 in
theorem lay_any (N count : Nat) (w : World) (hN : N < 18446744073709551616) (hc : count ≤ 8) :
    Calls Try.prog 71 #[.int .u64 N, .int .i64 count] w (Told w (Fm.be N count)) := by
  obtain ⟨i0, hi, hz, hsz, hby⟩ := info_parts u8_info
  have HI := Lib.hid hi
  have HZ := Lib.hid hz
  have HSZ := Lib.hid hsz
  have HBY := Lib.hid hby
  have HN := Lib.hid hN
  clear hi hz hsz hby hN
  go_enter Try.func71, Try.ntmps71
  go_wp2
  go_loopw [5, 6] (fun v i wr => ∃ j m : Nat, j ≤ 8 ∧ i = .int .i64 j ∧ Hid (m = count - (8 - j)) ∧ Hid (wr.ownsRow w.heap.size 5 1 v m (vals ((Fm.be N count).take m))) ∧ Hid (Below w.heap.size w wr)) (fun _ i _ => 8 - (intOf i).toNat)
  case atStart => exact ⟨0, 0, by omega, rfl, Lib.hid (by omega), Lib.hid (World.ownsRow_nil _ _ _ _), Lib.hid (Below.refl _ _)⟩
  case round =>
    obtain ⟨j, m, hj, rfl, HM, HR, HB⟩ := hrel
    by_cases hlt : j < 8
    · have hd : decide ((j : Int) < 8) = true := decide_eq_true (by omega)
      by_cases hge : 8 - count ≤ j
      · have hd2 : decide ((8 : Int) - count ≤ j) = true := decide_eq_true (by omega)
        obtain ⟨x, hx⟩ : ∃ x, x = Cm.low N (56 - 8 * j) := ⟨_, rfl⟩
        have HX : Hid ((Fm.be N count).take m ++ [x] = (Fm.be N count).take (m + 1) ∧ m + 1 = count - (8 - (j + 1))) := Lib.hid (by
          have h1 := be_front N (count := count) (r := 7 - j) (by omega)
          have e1 : count - (7 - j + 1) = m := by have := HM.out; omega
          have e2 : count - (7 - j) = m + 1 := by have := HM.out; omega
          rw [e1, e2, show 8 * (7 - j) = 56 - 8 * j by omega] at h1
          exact ⟨by rw [hx]; exact h1, by have := HM.out; omega⟩)
        have hlow : (N : Int) / 2 ^ (56 - 8 * j) % 256 = (x.toNat : Int) := by rw [hx]; exact low_int N (56 - 8 * j)
        have hm8 : m ≤ 8 := by have := HM.out; omega
        clear hge hx
        go_wp2_with (at_builtin; refine wpList_append_bytes (o := ⟨some 23, _, _, _, _, _⟩) rfl (.tmp 15) (.tmp 22) 54 rfl w.heap.size 5 i0 Try.underlying54 HI.out HZ.out HSZ.out HBY.out _ m ((Fm.be N count).take m) rfl (HR.out.alloc _) (wr.heap.size + 1) (some ⟨wr.heap.size, 0, none⟩) 1 1 [x] rfl (byte_block wr x _) (by omega) (by have := HB.out.size; simp; omega) ?_; intro v2 w2 HO2 HG2)
        go_roundw
        case rel =>
          have hb2 := HB.out.alloc HB.out.size (.cells #[.int .u8 (x.toNat : Int)] 5)
          have ho := HO2.out
          rw [HX.out.1] at ho
          exact ⟨j + 1, m + 1, by omega, by go_num, Lib.hid HX.out.2, Lib.hid ho, Lib.hid (hb2.grown HG2.out hb2.size (fun q hq => (HR.out.lt q hq).1))⟩
        case measure => simp [intOf]; omega
      · have hd2 : decide ((8 : Int) - count ≤ j) = false := decide_eq_false (by omega)
        have HX : Hid (m = count - (8 - (j + 1)) ) := Lib.hid (by have := HM.out; omega)
        clear hge
        go_wp2
        go_roundw
        case rel => exact ⟨j + 1, m, by omega, by go_num, HX, HR, HB⟩
        case measure => simp [intOf]; omega
    · obtain rfl : j = 8 := by omega
      have hd : decide (((8 : Nat) : Int) < 8) = false := by decide
      have HE : Hid (m = count) := Lib.hid (by have := HM.out; omega)
      obtain ⟨A, cap, rfl, hb, hcap⟩ := own_bs HR.out
      have HBS := Lib.hid hb
      clear hb
      go_wp2
      go_ret
      have hl := Fm.be_length N count
      have hbs := HBS.out
      rw [HE.out, List.take_of_length_le (by rw [hl]; exact Nat.le_refl _)] at hbs
      refine ⟨A, cap, by rw [hl, HE.out]; rfl, by rw [hl]; exact hbs, by rw [hl, ← HE.out]; exact hcap, HB.out⟩
end Go.Proofs.YtndbjdnfibpicaaR
end
section
namespace Go.Proofs.YtndbjdnfibpicaaR
open Go.ChangeShapes Go.WideShapes Go.ChangeAt Go.RowKit
set_option maxRecDepth 100000

/-- two bytes, just made: a row of the call's own -/
theorem two_own (w : World) (x y : UInt8) (T : TypeId) : (w.alloc (.cells #[.int .u8 (x.toNat : Int), .int .u8 (y.toNat : Int)] T)).ownsRow w.heap.size T 1 (.slice (some ⟨w.heap.size, 0, none⟩) 2 2) 2 (vals [x, y]) := by
  refine ⟨by simp [vals], .inr ⟨w.heap.size, 2, #[.int .u8 (x.toNat : Int), .int .u8 (y.toNat : Int)], rfl, Nat.le_refl _, heap_alloc_new w _, Nat.le_refl _, by unfold maxLen; omega, rfl, rfl⟩⟩
theorem refFrame_long (kind : UInt8) (seq : Nat) (A : Option Addr) (n c : Nat) (w : World) (hn : 4096 < n) :
    Calls Try.prog 65 #[.int .u8 (kind.toNat : Int), .int .u64 seq, .slice A n c] w fun e w' => e = .returned (.slice none 0 0) ∧ w = w' := by
  go_enter Try.func65, Try.ntmps65
  go_wp2
  go_ret
  exact ⟨rfl, rfl⟩
set_option maxHeartbeats 2000000 in
theorem refFrame_new (kind : UInt8) (seq : Nat) (A : Option Addr) (n c : Nat) (l : List UInt8) (B : Nat) (w : World) (hs : Bs w B A n l) (hB : B ≤ w.heap.size) (hn : n ≤ 4096) (hq : seq < 18446744073709551616) :
    Calls Try.prog 65 #[.int .u8 (kind.toNat : Int), .int .u64 seq, .slice A n c] w (ToldNew w (Fm.frame kind seq l)) := by
  obtain ⟨i0, hi, hz, hsz, hby⟩ := info_parts u8_info
  have HI := Lib.hid hi
  have HZ := Lib.hid hz
  have HSZ := Lib.hid hsz
  have HBY := Lib.hid hby
  have HS := Lib.hid hs
  have HBW := Lib.hid hB
  have HQ := Lib.hid hq
  have hw0 : IntKind.u64.wrap (n : Int) = (n : Int) := IntWalk.u64_in _ (by omega)
  have hb0 : Below w.heap.size w (w.alloc (.cells #[.int .u8 ((165 : UInt8).toNat : Int), .int .u8 (kind.toNat : Int)] 5)) := (Below.refl _ w).alloc (Nat.le_refl _) _
  have HB0 := Lib.hid hb0
  have HO0 := Lib.hid (two_own w 165 kind 5)
  have cl : Calls Try.prog 71 #[.int .u64 n, .int .i64 2] (w.alloc (.cells #[.int .u8 165, .int .u8 (kind.toNat : Int)] 5)) _ := lay_any n 2 _ (by omega) (by omega)
  have HE : Hid ((([165, kind] ++ Fm.be n 2) ++ Fm.be seq 8) ++ l = Fm.body kind seq l) := Lib.hid (by unfold Fm.body Fm.head; rw [hs.1]; simp)
  clear hi hz hsz hby hs hB hq hb0
  simp only [show ((165 : UInt8).toNat : Int) = 165 from rfl] at HB0 HO0
  go_enter Try.func65, Try.ntmps65
  go_wp2_with (first
    | (go_at_call 71; (with_reducible refine cl.mono ?_); rintro e w1 ⟨A1, k1, rfl, hs1, hk1, hb1⟩; rw [Fm.be_length] at hs1; have HS1 := Lib.hid hs1; have HB1 := Lib.hid (HB0.out.trans (hb1.mono HB0.out.size)); have HO1 := Lib.hid (HO0.out.kept (row := none) ⟨hb1.os, hb1.tape, hb1.output, hb1.size, fun k hk _ => hb1.block k hk⟩ (by simp [Value.ownBlock])); clear hs1 hk1 hb1 cl)
    | (at_builtin; refine wpList_append_bytes (o := ⟨some 18, _, _, _, _, _⟩) rfl (.tmp 13) (.tmp 17) 54 rfl w.heap.size 5 i0 Try.underlying54 HI.out HZ.out HSZ.out HBY.out _ 2 [165, kind] rfl HO1.out w1.heap.size A1 2 k1 (Fm.be n 2) rfl HS1.out (by omega) HB1.out.size ?_; intro v2 w2 HO2 HG2; have HB2 := Lib.hid (HB1.out.grown HG2.out HB1.out.size (fun q hq => (HO1.out.lt q hq).1)); have cl2 : Calls Try.prog 71 #[.int .u64 seq, .int .i64 8] w2 _ := lay_any seq 8 w2 HQ.out (by omega))
    | (go_at_call 71; (with_reducible refine cl2.mono ?_); rintro e w3 ⟨A3, k3, rfl, hs3, hk3, hb3⟩; rw [Fm.be_length] at hs3; have HS3 := Lib.hid hs3; have HB3 := Lib.hid (HB2.out.trans (hb3.mono HB2.out.size)); have HO3 := Lib.hid (HO2.out.kept (row := none) ⟨hb3.os, hb3.tape, hb3.output, hb3.size, fun k hk _ => hb3.block k hk⟩ (Classical.em _)); clear hs3 hk3 hb3 cl2)
    | (at_builtin; refine wpList_append_bytes (o := ⟨some 22, _, _, _, _, _⟩) rfl (.tmp 19) (.tmp 21) 54 rfl w.heap.size 5 i0 Try.underlying54 HI.out HZ.out HSZ.out HBY.out _ 4 ([165, kind] ++ Fm.be n 2) rfl HO3.out w3.heap.size A3 8 k3 (Fm.be seq 8) rfl HS3.out (by omega) HB3.out.size ?_; intro v4 w4 HO4 HG4; have HB4 := Lib.hid (HB3.out.grown HG4.out HB3.out.size (fun q hq => (HO3.out.lt q hq).1)))
    | (at_builtin; refine wpList_append_bytes (o := ⟨some 25, _, _, _, _, _⟩) rfl (.tmp 23) (.tmp 24) 54 rfl w.heap.size 5 i0 Try.underlying54 HI.out HZ.out HSZ.out HBY.out _ 12 (([165, kind] ++ Fm.be n 2) ++ Fm.be seq 8) rfl HO4.out w.heap.size A n c l rfl ((HS.out.mono HBW.out).below HB4.out) (by omega) HB4.out.size ?_; intro v5 w5 HO5 HG5; have HB5 := Lib.hid (HB4.out.grown HG5.out HB4.out.size (fun q hq => (HO4.out.lt q hq).1)); obtain ⟨A5, k5, rfl, hs5, hk5⟩ := own_bs HO5.out; rw [HE.out] at hs5; have cs := refSeal_new A5 (12 + n) k5 _ w5.heap.size w5 hs5 (Nat.le_refl _) (by omega); clear hs5 hk5)
    | (go_at_call 72; (with_reducible refine cs.mono ?_); rintro e w6 ⟨A6, k6, rfl, hs6, hk6, hb6, hn6⟩; have HN6 : Hid (∀ a : Addr, A6 = some a → w.heap.size ≤ a.block) := Lib.hid (fun a ha => Nat.le_trans HB5.out.size (hn6 a ha)); have HS6 := Lib.hid (And.intro hs6 hk6); have HB6 := Lib.hid (HB5.out.trans (hb6.mono HB5.out.size)); clear hs6 hk6 hb6 hn6 cs))
  go_ret
  exact ⟨A6, k6, rfl, HS6.out.1, HS6.out.2, HB6.out, HN6.out⟩
theorem refFrame_any (kind : UInt8) (seq : Nat) (A : Option Addr) (n c : Nat) (l : List UInt8) (B : Nat) (w : World) (hs : Bs w B A n l) (hB : B ≤ w.heap.size) (hn : n ≤ 4096) (hq : seq < 18446744073709551616) :
    Calls Try.prog 65 #[.int .u8 (kind.toNat : Int), .int .u64 seq, .slice A n c] w (Told w (Fm.frame kind seq l)) :=
  (refFrame_new kind seq A n c l B w hs hB hn hq).mono fun _ _ h => h.told
end Go.Proofs.YtndbjdnfibpicaaR
end
