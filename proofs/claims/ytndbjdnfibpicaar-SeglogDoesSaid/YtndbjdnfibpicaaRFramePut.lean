/-
  The program's own Put: a record's bytes, or that there are too many.
-/
import Derived.Test.YtndbjdnfibpicaaRMPage
import Derived.Test.YtndbjdnfibpicaaRNumsPut
import Derived.Test.YtndbjdnfibpicaaRMBytes
import Derived.Test.YtndbjdnfibpicaaRMCells
import Derived.Deep.AppendLies
import Derived.Deep.RegionLaw
namespace Go.Proofs.YtndbjdnfibpicaaR
open Go.ChangeShapes Go.WideShapes Go.ChangeAt Go.RowKit
set_option maxRecDepth 100000

/-- two bytes, just made: a list of bytes -/
theorem two_bytes (w : World) (x y : UInt8) (T : TypeId) : Bs (w.alloc (.cells #[.int .u8 (x.toNat : Int), .int .u8 (y.toNat : Int)] T)) (w.heap.size + 1) (some ⟨w.heap.size, 0, none⟩) 2 [x, y] :=
  (Row.new w T [x, y]).bs (Nat.lt_succ_self _)
theorem framePut_long (kind : UInt8) (seq : Nat) (A : Option Addr) (n c : Nat) (w : World) (hn : 4096 < n) :
    Calls Try.prog 76 #[.agg #[.int .u8 (kind.toNat : Int), .int .u64 (seq : Int), .slice A n c]] w fun e w' =>
      ∃ A' c', e = .returned (.tuple #[.slice A' 0 c', .int .i64 10]) ∧ Below w.heap.size w w' := by
  go_enter Try.func76, Try.ntmps76
  go_wp2
  go_ret2
  exact ⟨none, 0, rfl, (Below.refl _ w).alloc (Nat.le_refl _) _⟩
/-- a row that is just full: a row of the call's own -/
theorem row_own {w : World} {g : Nat} {T : TypeId} {L : List UInt8} (h : Row T w g L) {n : Nat} (hn : L.length = n) (hl : n ≤ 1000000000) : w.ownsRow g T 1 (.slice (some ⟨g, 0, none⟩) n n) n (vals L) := by
  refine ⟨by rw [vals_length, hn, Nat.mul_one], .inr ⟨g, n, (vals L).toArray, rfl, Nat.le_refl _, h, Nat.le_refl _, by unfold maxLen; omega, by simp [vals, hn], ?_⟩⟩
  rw [List.take_of_length_le (by simp [vals, hn])]
theorem numsPut_at (A : Option Addr) (n c N k nk : Nat) (kI : Int) (l : List UInt8) (B : Nat) (w : World) (hs : Bs w B A n l) (hB : B ≤ w.heap.size) (hn : n ≤ 1000000000) (hk : k ≤ 8) (hN : N < 18446744073709551616) (hkI : (k : Int) = kI) (hnk : n + k = nk) :
    Calls Try.prog 81 #[.slice A n c, .int .u64 N, .int .i64 kI] w fun e w' => ∃ g, e = .returned (.slice (some ⟨g, 0, none⟩) nk nk) ∧ g = w.heap.size ∧ Row 5 w' g (l ++ Fm.be N k) ∧ Below w.heap.size w w' := by
  subst hkI hnk
  refine (numsPut_any A n c N k l B w hs hB hn hk hN).mono ?_
  rintro e w' ⟨rfl, hr, hb⟩
  exact ⟨_, rfl, rfl, hr, hb⟩
set_option maxHeartbeats 2000000 in
theorem framePut_any (kind : UInt8) (seq : Nat) (A : Option Addr) (n c : Nat) (l : List UInt8) (B : Nat) (w : World) (hs : Bs w B A n l) (hB : B ≤ w.heap.size) (hn : n ≤ 4096) (hq : seq < 18446744073709551616) :
    Calls Try.prog 76 #[.agg #[.int .u8 (kind.toNat : Int), .int .u64 (seq : Int), .slice A n c]] w fun e w' =>
      ∃ A' c', e = .returned (.tuple #[.slice A' (n + 16) c', .int .i64 0]) ∧ Bs w' w'.heap.size A' (n + 16) (Fm.frame kind seq l) ∧ n + 16 ≤ c' ∧ Below w.heap.size w w' := by
  obtain ⟨i0, hi, hz, hsz, hby⟩ := info_parts u8_info
  have HI := Lib.hid hi
  have HZ := Lib.hid hz
  have HSZ := Lib.hid hsz
  have HBY := Lib.hid hby
  have HBW := Lib.hid hB
  have HQ := Lib.hid hq
  have HS := Lib.hid hs
  have hwn : IntKind.u64.wrap (n : Int) = (n : Int) := IntWalk.u64_in _ (by omega)
  obtain ⟨W1, hW1⟩ : ∃ W1, W1 = (w.alloc (.cells #[.int .u8 (kind.toNat : Int), .int .u64 (seq : Int), .slice A n c] 120)).alloc (.cells #[.int .u8 165, .int .u8 (kind.toNat : Int)] 5) := ⟨_, rfl⟩
  have hb0 : Below w.heap.size w (w.alloc (.cells #[.int .u8 (kind.toNat : Int), .int .u64 (seq : Int), .slice A n c] 120)) := (Below.refl _ w).alloc (Nat.le_refl _) _
  have hb1 : Below w.heap.size w W1 := by rw [hW1]; exact hb0.alloc hb0.size _
  have ht1 : Three W1 w.heap.size (.int .u8 (kind.toNat : Int)) (.int .u64 (seq : Int)) (.slice A n c) := by rw [hW1]; exact (Three.new w (.int .u8 (kind.toNat : Int)) (.int .u64 (seq : Int)) (.slice A n c) 120).alloc _
  have hs1 : Bs W1 (w.heap.size + 2) (some ⟨w.heap.size + 1, 0, none⟩) 2 [165, kind] := by
    have h := two_bytes (w.alloc (.cells #[.int .u8 (kind.toNat : Int), .int .u64 (seq : Int), .slice A n c] 120)) 165 kind 5
    have e1 : (w.alloc (.cells #[.int .u8 (kind.toNat : Int), .int .u64 (seq : Int), .slice A n c] 120)).heap.size = w.heap.size + 1 := by simp
    rw [e1] at h
    rw [hW1]
    exact h
  have hz1 : w.heap.size + 2 ≤ W1.heap.size := by rw [hW1]; simp
  have cp := numsPut_at (some ⟨w.heap.size + 1, 0, none⟩) 2 2 n 2 4 2 [165, kind] _ W1 hs1 hz1 (by omega) (by omega) (by omega) rfl rfl
  rw [hW1] at cp
  have HB1 := Lib.hid hb1
  have HT1 := Lib.hid ht1
  have HE : Hid ((([165, kind] ++ Fm.be n 2) ++ Fm.be seq 8) ++ l = Fm.body kind seq l) := Lib.hid (by unfold Fm.body Fm.head; rw [hs.1]; simp)
  have HW1 := Lib.hid hW1
  clear hi hz hsz hby hs hB hq hb0 hb1 ht1 hs1 hz1 hW1
  go_enter Try.func76, Try.ntmps76
  go_wp2_with (first
    | (go_at_call 81; (with_reducible refine cp.mono ?_); rintro e w2 ⟨g2, rfl, hg2, hr2, hb2⟩; rw [← HW1.out] at hg2 hb2; have HR2 := Lib.hid hr2; have HB2 := Lib.hid (HB1.out.trans (hb2.mono HB1.out.size)); have HT2 := Lib.hid (HT1.out.below hb2); obtain ⟨-, t0, t1, t2, -⟩ := HT2.out; have cp2 := numsPut_at (some ⟨g2, 0, none⟩) 4 4 seq 8 12 8 ([165, kind] ++ Fm.be n 2) _ w2 (hr2.bs hr2.lt) (Nat.le_refl _) (by omega) (by omega) HQ.out rfl rfl; clear hr2 hb2 hg2 cp)
    | (go_at_call 81; (with_reducible refine cp2.mono ?_); rintro e w3 ⟨g3, rfl, hg3, hr3, hb3⟩; have HG3 := Lib.hid hg3; have HR3 := Lib.hid hr3; have HB3 := Lib.hid (HB2.out.trans (hb3.mono HB2.out.size)); have HT3 := Lib.hid (HT2.out.below hb3); obtain ⟨-, t0, t1, t2, -⟩ := HT3.out; have HO3 := Lib.hid (row_own hr3 (n := 12) (by simp [Fm.be_length]) (by omega)); clear hr3 hb3 hg3 cp2)
    | (at_builtin; refine wpList_append_bytes (o := ⟨some 25, _, _, _, _, _⟩) rfl (.tmp 22) (.tmp 24) 54 rfl g3 5 i0 Try.underlying54 HI.out HZ.out HSZ.out HBY.out (.slice (some ⟨g3, 0, none⟩) 12 12) 12 _ rfl HO3.out B A n c l rfl (HS.out.below (HB3.out.mono HBW.out)) (by omega) (Nat.le_of_lt HR3.out.lt) ?_; intro v4 w4 HO4 HG4; have HB4 : Hid (Below w.heap.size w w4) := Lib.hid (HB3.out.grown HG4.out HB3.out.size (fun q hq => by injection hq with hq; rw [← hq, HG3.out]; exact HB2.out.size)); obtain ⟨A4, c4, rfl, hs4, hc4⟩ := own_bs HO4.out; have cs := seal_any A4 (12 + n) c4 _ _ w4 hs4 (Nat.le_refl _) (by omega); clear hs4)
    | (go_at_call 82; (with_reducible refine cs.mono ?_); rintro e w5 ⟨rfl, hr5, hb5⟩; have HB5 := Lib.hid (HB4.out.trans (hb5.mono HB4.out.size)); have HR5 := Lib.hid hr5; clear hr5 hb5 cs))
  have HF : Hid (Bs w5 w5.heap.size (some ⟨w4.heap.size, 0, none⟩) (n + 16) (Fm.frame kind seq l)) := Lib.hid (by
    have h := HR5.out
    rw [HE.out] at h
    have h2 := h.bs h.lt
    have hl : (Fm.frame kind seq l).length = n + 16 := by rw [Fm.frame_length, HS.out.1]
    rw [← hl]
    exact h2)
  have e16 : 12 + n + 4 = n + 16 := by omega
  rw [e16]
  go_ret2
  exact ⟨_, _, rfl, HF.out, Nat.le_refl _, HB5.out⟩
theorem puts13 : Puts13 := fun kind seq A n c l B w hs hB _ hn hq => framePut_any kind seq A n c l B w hs hB hn hq
theorem putsLong13 : PutsLong13 := fun kind seq A n c w hn => framePut_long kind seq A n c w hn
/-- the example: a record with no bytes -/
theorem awake_put (w : World) : Calls Try.prog 76 #[.agg #[.int .u8 2, .int .u64 1, .slice none 0 0]] w fun e w' =>
    ∃ b off c', e = .returned (.tuple #[.slice (some ⟨b, off, none⟩) 16 c', .int .i64 0]) ∧ w'.cell? ⟨b, off, none⟩ = some (.int .u8 165) ∧ 16 ≤ c' ∧ Below w.heap.size w w' := by
  refine (framePut_any 2 1 none 0 0 [] 0 w (Bs.nil _ _ _) (Nat.zero_le _) (by omega) (by omega)).mono ?_
  rintro e w' ⟨A', c', rfl, hs, hc, hb⟩
  obtain ⟨b, off, rfl, -, h⟩ := hs.2 (by omega)
  exact ⟨b, off, c', rfl, h 0 (by rw [Fm.frame_length]; simp), hc, hb⟩
end Go.Proofs.YtndbjdnfibpicaaR
