/-
  The walk of the statement MultiReads.
-/
import Derived.Test.YtlilkcbhlinolaaDoorMultiReadC
import Derived.Test.YtlilkcbhlinolaaDoorMultiAwake
import Derived.Test.YtlilkcbhlinolaaDoorRefAlike
namespace Go.Proofs.YtlilkcbhlinolaaDoor
open Go.ChangeShapes Go.WideShapes Go.ChangeAt Go.RowKit

theorem one_row (w : World) (y : UInt8) (T : TypeId) : Bs (w.alloc (.cells #[.int .u8 (y.toNat : Int)] T)) (w.heap.size + 1) (some ⟨w.heap.size, 0, none⟩) 1 [y] := by
  refine ⟨rfl, fun _ => ⟨w.heap.size, 0, rfl, by omega, fun j hj => ?_⟩⟩
  obtain rfl : j = 0 := by simpa using hj
  rw [World.cell?_alloc_new]
  rfl
theorem slice_init (A : Option Addr) (n c : Nat) (h1 : 1 ≤ n) (hc : n ≤ c) (w : World) :
    (Instr.slice 25 (.slice A n c) none (some (.int .i64 ((n : Int) - 1))) none).run Tryd.prog w = .ok (.slice A (n - 1) c) w := by
  have h1 := run_slice_h (P := Tryd.prog) w 25 A n c (by kernel_rfl) .i64 ((n : Int) - 1) (by omega) (by omega)
  have h2 : (sizeOf (Tryd.prog.elem 25)).run Tryd.prog w = .ok 1 w := by kernel_rfl
  have h3 : ((n : Int) - 1).toNat = n - 1 := by omega
  rw [h1, h2]
  simp [sliced, Result.andThen, h3, map_add_zero]
theorem readsOut_walk (Ab : Option Addr) (nb cb : Nat) (A : Option Addr) (n c : Nat) (total x : Int) (U : ByteArray) (s0 f s : Bool) (w : World) (hs0 : decide ((2000 : Int) < (nb : Int)) = !s0) (hs : decide ((100 : Int) < (U.size : Int)) = !s) (h : (s0 && f && s) = false)
    (ca : ∀ W, Below w.heap.size w W → Calls Tryd.prog 6 #[] W fun e w' => e = .returned (.bool true) ∧ Below W.heap.size W w')
    (cf : ∀ W, Below w.heap.size w W → Calls Tryd.prog 7 #[.slice A n c] W fun e w' => e = .returned (.bool f) ∧ Below W.heap.size W w') :
    Calls Tryd.prog 5 #[.slice Ab nb cb, .string U, .slice A n c, .int .i64 total, .int .u8 x] w fun e w' => e = .returned (.bool true) ∧ Below w.heap.size w w' := by
  have HB := Below.refl w.heap.size w
  cases s0
  case' true =>
    cases f
    case' true =>
      cases s
      case' true => cases h
  all_goals
    go_enter Tryd.func5, Tryd.ntmps5
    go_wp2_with (first
      | (go_at_call 6; refine (ca _ HB).mono ?_; rintro e w1 ⟨rfl, hb⟩; replace HB := HB.trans (hb.mono HB.size); clear hb)
      | (go_at_call 7; refine (cf _ HB).mono ?_; rintro e w2 ⟨rfl, hb⟩; replace HB := HB.trans (hb.mono HB.size); clear hb))
    go_ret
    exact ⟨rfl, HB⟩
section
variable (Ab : Option Addr) (cb : Nat) (lb : List UInt8) (A : Option Addr) (n c : Nat) (total : Int) (y : UInt8) (U : ByteArray) (w : World) (hs0 : decide ((2000 : Int) < (lb.length : Int)) = false) (hs : decide ((100 : Int) < (U.size : Int)) = false)
    (ca : ∀ W, Below w.heap.size w W → Calls Tryd.prog 6 #[] W fun e w' => e = .returned (.bool true) ∧ Below W.heap.size W w')
    (cf : ∀ W, Below w.heap.size w W → Calls Tryd.prog 7 #[.slice A n c] W fun e w' => e = .returned (.bool true) ∧ Below W.heap.size W w')
include hs0 hs ca cf
set_option maxHeartbeats 4000000 in
set_option maxRecDepth 100000 in
theorem reads_wrong (tk sm : Bool) (h40 : decide ((40 : Int) < (U.size : Int)) = !sm) (h : (tk && sm) = false)
    (cr0 : ∀ W, Below w.heap.size w W → Calls Tryd.prog 14 #[.slice Ab lb.length cb, .string U] W fun e w' => e = .returned (.tuple #[.slice none 0 0, .int .i64 0, .int .i64 1]) ∧ Below W.heap.size W w')
    (ct : ∀ W, Calls Tryd.prog 16 #[.string U] W fun e w' => e = .returned (.bool tk) ∧ W = w') :
    Calls Tryd.prog 5 #[.slice Ab lb.length cb, .string U, .slice A n c, .int .i64 total, .int .u8 (y.toNat : Int)] w fun e w' => e = .returned (.bool true) ∧ Below w.heap.size w w' := by
  have HB := Below.refl w.heap.size w
  cases tk
  case' true =>
    cases sm
    case' true => cases h
  all_goals
    go_enter Tryd.func5, Tryd.ntmps5
    go_wp2_with (first
      | (go_at_call 6; refine (ca _ HB).mono ?_; rintro e w1 ⟨rfl, hb⟩; replace HB := HB.trans (hb.mono HB.size); clear hb)
      | (go_at_call 7; refine (cf _ HB).mono ?_; rintro e w2 ⟨rfl, hb⟩; replace HB := HB.trans (hb.mono HB.size); clear hb)
      | (go_at_call 14; (with_reducible refine (cr0 _ HB).mono ?_); rintro e w3 ⟨rfl, hb⟩; clear cr0; replace HB := HB.trans (hb.mono HB.size); clear hb)
      | (go_at_call 16; refine (ct _).mono ?_; rintro e w4 ⟨rfl, rfl⟩))
    go_ret
    exact ⟨rfl, HB⟩
set_option maxHeartbeats 8000000 in
set_option maxRecDepth 100000 in
theorem reads_nn (h40 : decide ((40 : Int) < (U.size : Int)) = false)
    (cr0 : ∀ W, Below w.heap.size w W → Calls Tryd.prog 14 #[.slice Ab lb.length cb, .string U] W fun e w' => e = .returned (.tuple #[.slice none 0 0, .int .i64 0, .int .i64 3]) ∧ Below W.heap.size W w')
    (ct : ∀ W, Calls Tryd.prog 16 #[.string U] W fun e w' => e = .returned (.bool true) ∧ W = w')
    (cm : ∀ W, Below w.heap.size w W → Calls Tryd.prog 9 #[.slice A n c, .int .i64 total, .string U] W (MulTo false [] W)) :
    Calls Tryd.prog 5 #[.slice Ab lb.length cb, .string U, .slice A n c, .int .i64 total, .int .u8 (y.toNat : Int)] w fun e w' => e = .returned (.bool true) ∧ Below w.heap.size w w' := by
  have HB := Below.refl w.heap.size w
  go_enter Tryd.func5, Tryd.ntmps5
  go_wp2_with (first
    | (go_at_call 6; refine (ca _ HB).mono ?_; rintro e w1 ⟨rfl, hb⟩; replace HB := HB.trans (hb.mono HB.size); clear hb)
    | (go_at_call 7; refine (cf _ HB).mono ?_; rintro e w2 ⟨rfl, hb⟩; replace HB := HB.trans (hb.mono HB.size); clear hb)
    | (go_at_call 14; (with_reducible refine (cr0 _ HB).mono ?_); rintro e w3 ⟨rfl, hb⟩; clear cr0; replace HB := HB.trans (hb.mono HB.size); clear hb)
    | (go_at_call 16; refine (ct _).mono ?_; rintro e w4 ⟨rfl, rfl⟩)
    | (go_at_call 9; refine (cm _ HB).mono ?_; rintro e w7 ⟨A6, c6, rfl, hs6, hc6, hb⟩; replace HB := HB.trans (hb.mono HB.size); clear hb hs6))
  go_ret
  exact ⟨rfl, HB⟩
set_option maxHeartbeats 8000000 in
set_option maxRecDepth 100000 in
theorem reads_ny (M : List UInt8) (hm1 : 1 ≤ M.length) (hm2 : M.length ≤ 20000) (h40 : decide ((40 : Int) < (U.size : Int)) = false)
    (cr0 : ∀ W, Below w.heap.size w W → Calls Tryd.prog 14 #[.slice Ab lb.length cb, .string U] W fun e w' => e = .returned (.tuple #[.slice none 0 0, .int .i64 0, .int .i64 3]) ∧ Below W.heap.size W w')
    (ct : ∀ W, Calls Tryd.prog 16 #[.string U] W fun e w' => e = .returned (.bool true) ∧ W = w')
    (cm : ∀ W, Below w.heap.size w W → Calls Tryd.prog 9 #[.slice A n c, .int .i64 total, .string U] W (MulTo true M W))
    (cr1 : ∀ W A7 n7 c7, Below w.heap.size w W → Bs W W.heap.size A7 n7 ([] ++ M ++ [y]) → n7 ≤ c7 → Calls Tryd.prog 14 #[.slice A7 n7 c7, .string U] W fun e w' => e = .returned (.tuple #[.slice none 0 0, .int .i64 0, .int .i64 3]) ∧ Below W.heap.size W w')
    (cr2 : ∀ W A7 c7, Below w.heap.size w W → Bs W W.heap.size A7 (M.length - 1) (M.take (M.length - 1)) → M.length - 1 ≤ c7 → Calls Tryd.prog 14 #[.slice A7 (M.length - 1) c7, .string U] W fun e w' => e = .returned (.tuple #[.slice none 0 0, .int .i64 0, .int .i64 3]) ∧ Below W.heap.size W w') :
    Calls Tryd.prog 5 #[.slice Ab lb.length cb, .string U, .slice A n c, .int .i64 total, .int .u8 (y.toNat : Int)] w fun e w' => e = .returned (.bool true) ∧ Below w.heap.size w w' := by
  have HB := Below.refl w.heap.size w
  obtain ⟨i0, hi, hz, hsz, hby⟩ := info_parts u8_infoP
  have HI := Lib.hid hi
  have HZ := Lib.hid hz
  have HSZ := Lib.hid hsz
  have HBY := Lib.hid hby
  clear hi hz hsz hby
  have hm1i : 1 ≤ (M.length : Int) := by omega
  have hm2i : (M.length : Int) ≤ 20000 := by omega
  go_enter Tryd.func5, Tryd.ntmps5
  go_wp2_with (first
    | (go_at_call 6; refine (ca _ HB).mono ?_; rintro e w1 ⟨rfl, hb⟩; replace HB := HB.trans (hb.mono HB.size); clear hb)
    | (go_at_call 7; refine (cf _ HB).mono ?_; rintro e w2 ⟨rfl, hb⟩; replace HB := HB.trans (hb.mono HB.size); clear hb)
    | (go_at_call 14; (with_reducible refine (cr0 _ HB).mono ?_); rintro e w3 ⟨rfl, hb⟩; clear cr0; replace HB := HB.trans (hb.mono HB.size); clear hb)
    | (go_at_call 16; refine (ct _).mono ?_; rintro e w4 ⟨rfl, rfl⟩)
    | (go_at_call 9; refine (cm _ HB).mono ?_; rintro e w7 ⟨A6, c6, rfl, hs6, hc6, hb⟩; have HS6 := Lib.hid hs6; replace HB := HB.trans (hb.mono HB.size); have hsl := slice_init A6 M.length c6 hm1 hc6; clear hb hs6 cm)
    | (at_builtin; refine wpList_append_bytes (o := ⟨some 104, _, _, _, _, _⟩) rfl (.const (.slice none 0 0)) (.tmp 103) 25 rfl w7.heap.size 5 i0 Tryd.underlying25 HI.out HZ.out HSZ.out HBY.out (.slice none 0 0) 0 [] (by rfl) (World.ownsRow_nil _ _ _ _) _ A6 M.length c6 M (by rfl) HS6.out (by omega) (Nat.le_refl _) ?_
       intro v1 w8 HO1 HG1
       have hb8 := Lib.hid ((Below.refl w7.heap.size w7).grown HG1.out (Nat.le_refl _) (fun k hk => by cases hk)))
    | (at_builtin; refine wpList_append_bytes (o := ⟨some 107, _, _, _, _, _⟩) rfl (.tmp 104) (.tmp 106) 25 rfl w7.heap.size 5 i0 Tryd.underlying25 HI.out HZ.out HSZ.out HBY.out v1 (0 + M.length) ([] ++ M) rfl (HO1.out.alloc (.cells #[.int .u8 (y.toNat : Int)] 5)) (w8.heap.size + 1) (some ⟨w8.heap.size, 0, none⟩) 1 1 [y] rfl (one_row w8 y 5) (by omega) ((hb8.out.alloc hb8.out.size (.cells #[.int .u8 (y.toNat : Int)] 5)).size) ?_
       intro v2 w9 HO2 HG2
       have hb9 := (hb8.out.alloc hb8.out.size (.cells #[.int .u8 (y.toNat : Int)] 5)).grown HG2.out ((hb8.out.alloc hb8.out.size (.cells #[.int .u8 (y.toNat : Int)] 5)).size) (fun k hk => ((HO1.out.alloc (.cells #[.int .u8 (y.toNat : Int)] 5)).lt k hk).1)
       have ho2 := HO2.out; rw [Nat.zero_add] at ho2; obtain ⟨A7, c7, rfl, hs7, hc7⟩ := own_bs ho2
       have HS7 := Lib.hid hs7
       replace HS6 := Lib.hid ((HS6.out.below hb9).mono hb9.size)
       replace HB := HB.trans (hb9.mono HB.size)
       clear hb9 hs7 HG1 HG2 HO1 HO2 hb8 ho2)
    | (go_at_call 14; (with_reducible refine (cr1 _ _ _ _ HB HS7.out hc7).mono ?_); rintro e w10 ⟨rfl, hb⟩; replace HS6 := Lib.hid ((HS6.out.below hb).mono hb.size); replace HB := HB.trans (hb.mono HB.size); clear hb HS7)
    | (go_at_call 14; (with_reducible refine (cr2 _ _ _ HB (HS6.out.front (Nat.sub_le _ 1)) (Nat.le_trans (Nat.sub_le _ 1) hc6)).mono ?_); rintro e w11 ⟨rfl, hb⟩; replace HB := HB.trans (hb.mono HB.size); clear hb))
  go_ret
  exact ⟨rfl, HB⟩
set_option maxHeartbeats 8000000 in
set_option maxRecDepth 100000 in
theorem reads_yn (K : List Mu.Part) (T : Int) (HSB : Hid (Bs w w.heap.size Ab lb.length lb)) (hnb : lb.length ≤ 9223372036854775807) (h40 : decide ((40 : Int) < (U.size : Int)) = false)
    (cr0 : ∀ W, Below w.heap.size w W → Calls Tryd.prog 14 #[.slice Ab lb.length cb, .string U] W (ReadYes K T W))
    (cm0 : ∀ W A3 c3, Below w.heap.size w W → Ps W W.heap.size A3 K.length K → Calls Tryd.prog 9 #[.slice A3 K.length c3, .int .i64 T, .string U] W (MulTo true lb W))
    (ct : ∀ W, Calls Tryd.prog 16 #[.string U] W fun e w' => e = .returned (.bool true) ∧ W = w')
    (cm : ∀ W, Below w.heap.size w W → Calls Tryd.prog 9 #[.slice A n c, .int .i64 total, .string U] W (MulTo false [] W)) :
    Calls Tryd.prog 5 #[.slice Ab lb.length cb, .string U, .slice A n c, .int .i64 total, .int .u8 (y.toNat : Int)] w fun e w' => e = .returned (.bool true) ∧ Below w.heap.size w w' := by
  have HB := Below.refl w.heap.size w
  go_enter Tryd.func5, Tryd.ntmps5
  go_wp2_with (first
    | (go_at_call 6; refine (ca _ HB).mono ?_; rintro e w1 ⟨rfl, hb⟩; replace HB := HB.trans (hb.mono HB.size); clear hb)
    | (go_at_call 7; refine (cf _ HB).mono ?_; rintro e w2 ⟨rfl, hb⟩; replace HB := HB.trans (hb.mono HB.size); clear hb)
    | (go_at_call 14; (with_reducible refine (cr0 _ HB).mono ?_); rintro e w3 ⟨A3, c3, rfl, hps, hc3, hb⟩; clear cr0; have HPS := Lib.hid hps; replace HB := HB.trans (hb.mono HB.size); clear hb hps)
    | (go_at_call 16; refine (ct _).mono ?_; rintro e w4 ⟨rfl, rfl⟩)
    | (go_at_call 9; (with_reducible refine (cm0 _ _ _ HB HPS.out).mono ?_); rintro e w5 ⟨A4, c4, rfl, hs4, hc4, hb⟩; clear HPS cm0; have HS4 := Lib.hid hs4; replace HB := HB.trans (hb.mono HB.size); clear hb hs4)
    | (go_at_call 12; refine (bytes_same Ab A4 lb.length cb c4 _ lb _ ((HSB.out.below HB).mono HB.size) HS4.out hnb).mono ?_; rintro e w6 ⟨rfl, q, hq⟩; replace HB := hq ▸ below_drewN HB q; clear hq)
    | (go_at_call 9; refine (cm _ HB).mono ?_; rintro e w7 ⟨A6, c6, rfl, hs6, hc6, hb⟩; replace HB := HB.trans (hb.mono HB.size); clear hb hs6))
  go_ret
  exact ⟨rfl, HB⟩
set_option maxHeartbeats 8000000 in
set_option maxRecDepth 100000 in
theorem reads_yy (K : List Mu.Part) (T : Int) (HSB : Hid (Bs w w.heap.size Ab lb.length lb)) (hnb : lb.length ≤ 9223372036854775807) (M : List UInt8) (hm1 : 1 ≤ M.length) (hm2 : M.length ≤ 20000) (h40 : decide ((40 : Int) < (U.size : Int)) = false)
    (cr0 : ∀ W, Below w.heap.size w W → Calls Tryd.prog 14 #[.slice Ab lb.length cb, .string U] W (ReadYes K T W))
    (cm0 : ∀ W A3 c3, Below w.heap.size w W → Ps W W.heap.size A3 K.length K → Calls Tryd.prog 9 #[.slice A3 K.length c3, .int .i64 T, .string U] W (MulTo true lb W))
    (ct : ∀ W, Calls Tryd.prog 16 #[.string U] W fun e w' => e = .returned (.bool true) ∧ W = w')
    (cm : ∀ W, Below w.heap.size w W → Calls Tryd.prog 9 #[.slice A n c, .int .i64 total, .string U] W (MulTo true M W))
    (cr1 : ∀ W A7 n7 c7, Below w.heap.size w W → Bs W W.heap.size A7 n7 ([] ++ M ++ [y]) → n7 ≤ c7 → Calls Tryd.prog 14 #[.slice A7 n7 c7, .string U] W fun e w' => e = .returned (.tuple #[.slice none 0 0, .int .i64 0, .int .i64 3]) ∧ Below W.heap.size W w')
    (cr2 : ∀ W A7 c7, Below w.heap.size w W → Bs W W.heap.size A7 (M.length - 1) (M.take (M.length - 1)) → M.length - 1 ≤ c7 → Calls Tryd.prog 14 #[.slice A7 (M.length - 1) c7, .string U] W fun e w' => e = .returned (.tuple #[.slice none 0 0, .int .i64 0, .int .i64 3]) ∧ Below W.heap.size W w') :
    Calls Tryd.prog 5 #[.slice Ab lb.length cb, .string U, .slice A n c, .int .i64 total, .int .u8 (y.toNat : Int)] w fun e w' => e = .returned (.bool true) ∧ Below w.heap.size w w' := by
  have HB := Below.refl w.heap.size w
  obtain ⟨i0, hi, hz, hsz, hby⟩ := info_parts u8_infoP
  have HI := Lib.hid hi
  have HZ := Lib.hid hz
  have HSZ := Lib.hid hsz
  have HBY := Lib.hid hby
  clear hi hz hsz hby
  have hm1i : 1 ≤ (M.length : Int) := by omega
  have hm2i : (M.length : Int) ≤ 20000 := by omega
  go_enter Tryd.func5, Tryd.ntmps5
  go_wp2_with (first
    | (go_at_call 6; refine (ca _ HB).mono ?_; rintro e w1 ⟨rfl, hb⟩; replace HB := HB.trans (hb.mono HB.size); clear hb)
    | (go_at_call 7; refine (cf _ HB).mono ?_; rintro e w2 ⟨rfl, hb⟩; replace HB := HB.trans (hb.mono HB.size); clear hb)
    | (go_at_call 14; (with_reducible refine (cr0 _ HB).mono ?_); rintro e w3 ⟨A3, c3, rfl, hps, hc3, hb⟩; clear cr0; have HPS := Lib.hid hps; replace HB := HB.trans (hb.mono HB.size); clear hb hps)
    | (go_at_call 16; refine (ct _).mono ?_; rintro e w4 ⟨rfl, rfl⟩)
    | (go_at_call 9; (with_reducible refine (cm0 _ _ _ HB HPS.out).mono ?_); rintro e w5 ⟨A4, c4, rfl, hs4, hc4, hb⟩; clear HPS cm0; have HS4 := Lib.hid hs4; replace HB := HB.trans (hb.mono HB.size); clear hb hs4)
    | (go_at_call 12; refine (bytes_same Ab A4 lb.length cb c4 _ lb _ ((HSB.out.below HB).mono HB.size) HS4.out hnb).mono ?_; rintro e w6 ⟨rfl, q, hq⟩; replace HB := hq ▸ below_drewN HB q; clear hq)
    | (go_at_call 9; refine (cm _ HB).mono ?_; rintro e w7 ⟨A6, c6, rfl, hs6, hc6, hb⟩; have HS6 := Lib.hid hs6; replace HB := HB.trans (hb.mono HB.size); have hsl := slice_init A6 M.length c6 hm1 hc6; clear hb hs6 cm)
    | (at_builtin; refine wpList_append_bytes (o := ⟨some 104, _, _, _, _, _⟩) rfl (.const (.slice none 0 0)) (.tmp 103) 25 rfl w7.heap.size 5 i0 Tryd.underlying25 HI.out HZ.out HSZ.out HBY.out (.slice none 0 0) 0 [] (by rfl) (World.ownsRow_nil _ _ _ _) _ A6 M.length c6 M (by rfl) HS6.out (by omega) (Nat.le_refl _) ?_
       intro v1 w8 HO1 HG1
       have hb8 := Lib.hid ((Below.refl w7.heap.size w7).grown HG1.out (Nat.le_refl _) (fun k hk => by cases hk)))
    | (at_builtin; refine wpList_append_bytes (o := ⟨some 107, _, _, _, _, _⟩) rfl (.tmp 104) (.tmp 106) 25 rfl w7.heap.size 5 i0 Tryd.underlying25 HI.out HZ.out HSZ.out HBY.out v1 (0 + M.length) ([] ++ M) rfl (HO1.out.alloc (.cells #[.int .u8 (y.toNat : Int)] 5)) (w8.heap.size + 1) (some ⟨w8.heap.size, 0, none⟩) 1 1 [y] rfl (one_row w8 y 5) (by omega) ((hb8.out.alloc hb8.out.size (.cells #[.int .u8 (y.toNat : Int)] 5)).size) ?_
       intro v2 w9 HO2 HG2
       have hb9 := (hb8.out.alloc hb8.out.size (.cells #[.int .u8 (y.toNat : Int)] 5)).grown HG2.out ((hb8.out.alloc hb8.out.size (.cells #[.int .u8 (y.toNat : Int)] 5)).size) (fun k hk => ((HO1.out.alloc (.cells #[.int .u8 (y.toNat : Int)] 5)).lt k hk).1)
       have ho2 := HO2.out; rw [Nat.zero_add] at ho2; obtain ⟨A7, c7, rfl, hs7, hc7⟩ := own_bs ho2
       have HS7 := Lib.hid hs7
       replace HS6 := Lib.hid ((HS6.out.below hb9).mono hb9.size)
       replace HB := HB.trans (hb9.mono HB.size)
       clear hb9 hs7 HG1 HG2 HO1 HO2 hb8 ho2)
    | (go_at_call 14; (with_reducible refine (cr1 _ _ _ _ HB HS7.out hc7).mono ?_); rintro e w10 ⟨rfl, hb⟩; replace HS6 := Lib.hid ((HS6.out.below hb).mono hb.size); replace HB := HB.trans (hb.mono HB.size); clear hb HS7)
    | (go_at_call 14; (with_reducible refine (cr2 _ _ _ HB (HS6.out.front (Nat.sub_le _ 1)) (Nat.le_trans (Nat.sub_le _ 1) hc6)).mono ?_); rintro e w11 ⟨rfl, hb⟩; replace HB := HB.trans (hb.mono HB.size); clear hb))
  go_ret
  exact ⟨rfl, HB⟩
end
theorem Mu.bulk_put (t : Int) (D : List UInt8) : ∀ K : List Mu.Part, Mu.bulk K ≤ (Mu.put K t D).length
  | [] => by unfold Mu.bulk; simp
  | p :: K => by
    have ih := Mu.bulk_put t D K
    have e : Mu.put (p :: K) t D = Mu.piece D t p ++ Mu.put K t D := by unfold Mu.put; rw [List.flatMap_cons, List.append_assoc]
    rw [e, List.length_append]
    have h1 : p.2.2.length ≤ (Mu.piece D t p).length := by unfold Mu.piece; simp only [List.length_append]; omega
    unfold Mu.bulk at ih ⊢
    rw [List.map_cons, List.sum_cons]
    omega
theorem reads_few {L : List Mu.Part} (h : Mu.few L = true) (total : Int) {D : List UInt8} (hD : D.length ≤ 100) : Mu.bulk L ≤ 2000 ∧ 1 ≤ (Mu.put L total D).length ∧ (Mu.put L total D).length ≤ 7000 := by
  unfold Mu.few at h
  rw [Bool.and_eq_true, decide_eq_true_eq, decide_eq_true_eq] at h
  obtain ⟨h1, h2⟩ := h
  have h3 := Mu.put_len (n := 100) L D total hD
  have : L.length * (100 + 110) ≤ 20 * (100 + 110) := Nat.mul_le_mul_right _ (by omega)
  unfold Mu.put Mu.close
  simp only [List.length_append, List.length_cons, List.length_nil]
  omega
/-- P8.3: with a byte more they are of none -/
theorem more_none {L : List Mu.Part} {t : Int} {D : List UInt8} {y : UInt8} (h : Mu.right L t = true) (K : List Mu.Part) (T : Int) : ¬ Mu.Is D ([] ++ Mu.put L t D ++ [y]) K T := fun ⟨h1, h2⟩ => by
  have := (Mu.only (r := [y]) (bound := D) h h1 (by rw [h2]; rfl)).2.2
  cases this
/-- P8.3: with a byte less they are of none -/
theorem less_none {L : List Mu.Part} {t : Int} {D : List UInt8} (h : Mu.right L t = true) (h0 : 1 ≤ (Mu.put L t D).length) (K : List Mu.Part) (T : Int) : ¬ Mu.Is D ((Mu.put L t D).take ((Mu.put L t D).length - 1)) K T := fun ⟨h1, h2⟩ => by
  have := (Mu.only (r := (Mu.put L t D).drop ((Mu.put L t D).length - 1)) (bound := D) h1 h (by rw [h2, List.take_append_drop])).2.2
  have hl := congrArg List.length this
  rw [List.length_drop, List.length_nil] at hl
  omega
theorem multiReads_walk (Ab : Option Addr) (nb cb : Nat) (lb : List UInt8) (U : ByteArray) (A : Option Addr) (n c : Nat) (L : List Mu.Part) (total x : Int) (w : World) (hb : Bs w w.heap.size Ab nb lb) (hbc : nb ≤ cb) (_ : cb ≤ maxLen) (_ : U.size ≤ maxLen)
    (h : Ps w w.heap.size A n L) (_ : n ≤ c) (_ : c ≤ maxLen) (hl : ∀ p ∈ L, p.2.2.length ≤ 140737488355328) (_ : -9223372036854775808 ≤ total) (_ : total ≤ 9223372036854775807) (_ : 0 ≤ x) (_ : x ≤ 255)
    (ht : Lib.TabIs Tryd.prog w "internal/strconv.uint64pow10" .u64 Lib.pow10Tab) (h1 : 0 < w.heap.size) (h2 : w.cell? ⟨0, 0, none⟩ = some (.iface 97 (.agg #[.pointer (some ⟨HG, 46, none⟩)])))
    (h3 : ∃ m, w.cell? ⟨1, 0, none⟩ = some (.int .i64 m)) :
    Calls Tryd.prog 5 #[.slice Ab nb cb, .string U, .slice A n c, .int .i64 total, .int .u8 x] w fun e w' => e = .returned (.bool true) ∧ Below w.heap.size w w' := by
  obtain rfl : lb.length = nb := hb.1
  obtain ⟨y, rfl⟩ : ∃ y : UInt8, x = (y.toNat : Int) := ⟨UInt8.ofNat x.toNat, by simp; omega⟩
  have hE := env_of ht h1 h2 h3
  have hm : maxLen ≤ 9223372036854775807 := by unfold maxLen; omega
  have hn : n ≤ 9223372036854775807 := by omega
  have hU : U.size ≤ 9223372036854775807 := by omega
  have ca := fun W (hb : Below w.heap.size w W) => awake8_yes W (hE.on hb)
  have cf := fun W (hb : Below w.heap.size w W) => few_any A n c w.heap.size L W (h.below hb) hb.size hn hl
  by_cases hg : (decide (lb.length ≤ 2000) && Mu.few L && decide (U.size ≤ 100)) = true
  · rw [Bool.and_eq_true, Bool.and_eq_true, decide_eq_true_eq, decide_eq_true_eq] at hg
    obtain ⟨⟨h2000, hfw⟩, h100⟩ := hg
    rw [hfw] at cf
    have hs0 : decide ((2000 : Int) < (lb.length : Int)) = false := decide_eq_false (by omega)
    have hs : decide ((100 : Int) < (U.size : Int)) = false := decide_eq_false (by omega)
    obtain ⟨hbk, hp1, hp2⟩ := reads_few hfw total (D := U.data.toList) (by rw [size_list]; exact h100)
    obtain ⟨hme, h40⟩ := may_sizes U
    have ct := fun W => refToken_any U W hU
    cases hmay : Mu.may U.data.toList with
    | false => exact reads_wrong Ab cb lb A n c total y U w hs0 hs ca cf _ _ h40 (by rw [← hme]; exact hmay) (fun W hw => read_wrong Ab lb.length cb U W hU (hE.on hw) hmay) ct
    | true =>
      have hU40 := may_40 hmay
      rw [hme, Bool.and_eq_true] at hmay
      rw [hmay.2] at h40
      rw [hmay.1] at ct
      have hmay : Mu.may U.data.toList = true := by rw [hme, hmay.1, hmay.2]; rfl
      have cm := fun W (hw : Below w.heap.size w W) => refMulti_any A n c w.heap.size L total U W (h.below hw) hw.size hn hU (by omega)
      simp only [hmay, Bool.true_and] at cm
      have cr1 : Mu.right L total = true → ∀ W A7 n7 c7, Below w.heap.size w W → Bs W W.heap.size A7 n7 ([] ++ Mu.put L total U.data.toList ++ [y]) → n7 ≤ c7 → Calls Tryd.prog 14 #[.slice A7 n7 c7, .string U] W fun e w' =>
          e = .returned (.tuple #[.slice none 0 0, .int .i64 0, .int .i64 3]) ∧ Below W.heap.size W w' := fun hr W A7 n7 c7 hw hs7 hc7 =>
        read_none A7 n7 c7 W.heap.size _ U W hs7 (Nat.le_refl _) hc7 (by have := hs7.1; simp only [List.length_append, List.length_cons, List.length_nil] at this; omega) (hE.on hw) hmay (more_none hr)
      have cr2 : Mu.right L total = true → ∀ W A7 c7, Below w.heap.size w W → Bs W W.heap.size A7 ((Mu.put L total U.data.toList).length - 1) ((Mu.put L total U.data.toList).take ((Mu.put L total U.data.toList).length - 1)) → (Mu.put L total U.data.toList).length - 1 ≤ c7 →
          Calls Tryd.prog 14 #[.slice A7 ((Mu.put L total U.data.toList).length - 1) c7, .string U] W fun e w' => e = .returned (.tuple #[.slice none 0 0, .int .i64 0, .int .i64 3]) ∧ Below W.heap.size W w' := fun hr W A7 c7 hw hs7 hc7 =>
        read_none A7 _ c7 W.heap.size _ U W hs7 (Nat.le_refl _) hc7 (by omega) (hE.on hw) hmay (less_none hr hp1)
      by_cases hk : ∃ K T, Mu.Is U.data.toList lb K T
      · obtain ⟨K, T, hi⟩ := hk
        have cr0 := fun W (hw : Below w.heap.size w W) => read_is Ab lb.length cb w.heap.size lb U W (hb.below hw) hw.size hbc (by omega) (hE.on hw) hmay hi
        have hKn := (Mu.right_parts hi.1).2.2.1
        have hKb := Mu.bulk_put T U.data.toList K
        rw [hi.2] at hKb
        have cm0 : ∀ W A3 c3, Below w.heap.size w W → Ps W W.heap.size A3 K.length K → Calls Tryd.prog 9 #[.slice A3 K.length c3, .int .i64 T, .string U] W (MulTo true lb W) := fun W A3 c3 _ hps => by
          have := refMulti_any A3 K.length c3 W.heap.size K T U W hps (Nat.le_refl _) (by omega) hU (by omega)
          rw [hmay, hi.1, Bool.true_and, if_pos rfl, hi.2] at this
          exact this
        cases hr : Mu.right L total with
        | true =>
          simp only [hr, if_true] at cm
          exact reads_yy Ab cb lb A n c total y U w hs0 hs ca cf K T (Lib.hid hb) (by omega) _ hp1 (by omega) h40 cr0 cm0 ct cm (cr1 hr) (cr2 hr)
        | false =>
          simp only [hr, Bool.false_eq_true, if_false] at cm
          exact reads_yn Ab cb lb A n c total y U w hs0 hs ca cf K T (Lib.hid hb) (by omega) h40 cr0 cm0 ct cm
      · have cr0 := fun W (hw : Below w.heap.size w W) => read_none Ab lb.length cb w.heap.size lb U W (hb.below hw) hw.size hbc (by omega) (hE.on hw) hmay (fun K T hi => hk ⟨K, T, hi⟩)
        cases hr : Mu.right L total with
        | true =>
          simp only [hr, if_true] at cm
          exact reads_ny Ab cb lb A n c total y U w hs0 hs ca cf _ hp1 (by omega) h40 cr0 ct cm (cr1 hr) (cr2 hr)
        | false =>
          simp only [hr, Bool.false_eq_true, if_false] at cm
          exact reads_nn Ab cb lb A n c total y U w hs0 hs ca cf h40 cr0 ct cm
  · refine readsOut_walk Ab lb.length cb A n c total _ U (decide (lb.length ≤ 2000)) (Mu.few L) (decide (U.size ≤ 100)) w ?_ ?_ (by simpa using hg) ca cf
    · by_cases h0 : lb.length ≤ 2000
      · rw [decide_eq_true h0, decide_eq_false (by omega)]; rfl
      · rw [decide_eq_false h0, decide_eq_true (by omega)]; rfl
    · by_cases h100 : U.size ≤ 100
      · rw [decide_eq_true h100, decide_eq_false (by omega)]; rfl
      · rw [decide_eq_false h100, decide_eq_true (by omega)]; rfl
end Go.Proofs.YtlilkcbhlinolaaDoor
