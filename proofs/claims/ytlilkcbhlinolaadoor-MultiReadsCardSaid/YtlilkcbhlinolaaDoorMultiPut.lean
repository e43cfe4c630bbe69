/-
  Contracts: multi.check, multi.Size.
  Contract of multi.Put.
-/
import Derived.Test.YtlilkcbhlinolaaDoorMultiHead
import Derived.Test.YtlilkcbhlinolaaDoorRefMulti
namespace Go.Proofs.YtlilkcbhlinolaaDoor
open Go.ChangeShapes Go.WideShapes Go.ChangeAt Go.RowKit

/-- may the parts, the total and the bound be laid -/
def Mu.fine (L : List Mu.Part) (total : Int) (bound : List UInt8) : Bool := Mu.right L total && Mu.may bound
theorem check_walk (A : Option Addr) (n c : Nat) (total : Int) (U : ByteArray) (w : World)
    (cr : ∀ W, Below w.heap.size w W → Calls Tryd.prog 10 #[.slice A n c, .int .i64 total] W fun e w' => e = .returned (.bool true) ∧ Below W.heap.size W w')
    (cb : ∀ W, Calls Tryd.prog 29 #[.string U] W fun e w' => e = .returned .nilIface ∧ Below W.heap.size W w') :
    Calls Tryd.prog 18 #[.slice A n c, .int .i64 total, .string U] w fun e w' => e = .returned .nilIface ∧ Below w.heap.size w w' := by
  have HB := Below.refl w.heap.size w
  go_enter Tryd.func18, Tryd.ntmps18
  go_wp2_with (first
    | (go_at_call 10; refine (cr _ HB).mono ?_; rintro e w1 ⟨rfl, hb⟩; replace HB := HB.trans (hb.mono HB.size); clear hb)
    | (go_at_call 29; refine (cb _).mono ?_; rintro e w1 ⟨rfl, hb⟩; replace HB := HB.trans (hb.mono HB.size); clear hb))
  go_ret
  exact ⟨rfl, HB⟩
def ArgTo (w : World) (e : Ending) (w' : World) : Prop := (∃ x, e = .returned (argE x)) ∧ Below w.heap.size w w'
theorem check_wrong (A : Option Addr) (n c : Nat) (total : Int) (U : ByteArray) (w : World)
    (cr : ∀ W, Below w.heap.size w W → Calls Tryd.prog 10 #[.slice A n c, .int .i64 total] W fun e w' => e = .returned (.bool false) ∧ Below W.heap.size W w') :
    Calls Tryd.prog 18 #[.slice A n c, .int .i64 total, .string U] w (ArgTo w) := by
  have HB := Below.refl w.heap.size w
  go_enter Tryd.func18, Tryd.ntmps18
  go_wp2_with (go_at_call 10; refine (cr _ HB).mono ?_; rintro e w1 ⟨rfl, hb⟩; replace HB := HB.trans (hb.mono HB.size); clear hb)
  go_ret
  exact ⟨⟨_, rfl⟩, HB⟩
theorem check_bound (A : Option Addr) (n c : Nat) (total : Int) (U : ByteArray) (x : ByteArray) (w : World)
    (cr : ∀ W, Below w.heap.size w W → Calls Tryd.prog 10 #[.slice A n c, .int .i64 total] W fun e w' => e = .returned (.bool true) ∧ Below W.heap.size W w')
    (cb : ∀ W, Calls Tryd.prog 29 #[.string U] W fun e w' => e = .returned (argE x) ∧ Below W.heap.size W w') :
    Calls Tryd.prog 18 #[.slice A n c, .int .i64 total, .string U] w (ArgTo w) := by
  have HB := Below.refl w.heap.size w
  go_enter Tryd.func18, Tryd.ntmps18
  go_wp2_with (first
    | (go_at_call 10; refine (cr _ HB).mono ?_; rintro e w1 ⟨rfl, hb⟩; replace HB := HB.trans (hb.mono HB.size); clear hb)
    | (go_at_call 29; refine (cb _).mono ?_; rintro e w1 ⟨rfl, hb⟩; replace HB := HB.trans (hb.mono HB.size); clear hb))
  go_ret
  exact ⟨⟨_, rfl⟩, HB⟩
theorem may_sizes (U : ByteArray) : Mu.may U.data.toList = (Tx.token U.data.toList && decide ((U.size : Int) ≤ 40)) ∧ decide ((40 : Int) < (U.size : Int)) = !decide ((U.size : Int) ≤ 40) := by
  refine ⟨by unfold Mu.may; rw [size_list], ?_⟩
  by_cases hs : (U.size : Int) ≤ 40
  · rw [decide_eq_true hs, decide_eq_false (by omega)]; rfl
  · rw [decide_eq_false hs, decide_eq_true (by omega)]; rfl
section
variable (A : Option Addr) (n c B : Nat) (L : List Mu.Part) (total : Int) (U : ByteArray) (w : World) (h : Ps w B A n L) (hB : B ≤ w.heap.size) (hn : n ≤ 9223372036854775807) (hU : U.size ≤ 9223372036854775807)
include h hB hn hU
theorem check_yes (hok : Mu.fine L total U.data.toList = true) :
    Calls Tryd.prog 18 #[.slice A n c, .int .i64 total, .string U] w fun e w' => e = .returned .nilIface ∧ Below w.heap.size w w' := by
  obtain ⟨hm, hs⟩ := may_sizes U
  unfold Mu.fine at hok
  rw [Bool.and_eq_true] at hok
  have cr := fun W (hb : Below w.heap.size w W) => multiRight_any A n c B L total W (h.below (hb.mono hB)) (Nat.le_trans hB hb.size) hn
  rw [hok.1] at cr
  exact check_walk A n c total U w cr (fun W => checkBound_walk U _ _ W hs (fun W => token_any U W hU) (by rw [← hm]; exact hok.2))
theorem check_no (hok : Mu.fine L total U.data.toList = false) :
    Calls Tryd.prog 18 #[.slice A n c, .int .i64 total, .string U] w (ArgTo w) := by
  obtain ⟨hm, hs⟩ := may_sizes U
  unfold Mu.fine at hok
  have cr := fun W (hb : Below w.heap.size w W) => multiRight_any A n c B L total W (h.below (hb.mono hB)) (Nat.le_trans hB hb.size) hn
  cases hr : Mu.right L total with
  | false =>
    rw [hr] at cr
    exact check_wrong A n c total U w cr
  | true =>
    rw [hr, Bool.true_and] at hok
    rw [hr] at cr
    exact check_bound A n c total U _ w cr (fun W => checkBound_no U _ _ W hs (fun W => token_any U W hU) (by rw [← hm]; exact hok))
end

theorem size_wrong (A : Option Addr) (n c : Nat) (total : Int) (U : ByteArray) (w : World)
    (cc : ∀ W, Below w.heap.size w W → Calls Tryd.prog 18 #[.slice A n c, .int .i64 total, .string U] W (ArgTo W)) :
    Calls Tryd.prog 13 #[.slice A n c, .int .i64 total, .string U] w fun e w' => e = .returned (.int .i64 0) ∧ Below w.heap.size w w' := by
  have HB := Below.refl w.heap.size w
  go_enter Tryd.func13, Tryd.ntmps13
  go_wp2_with (go_at_call 18; refine (cc _ HB).mono ?_; rintro e w1 ⟨⟨x, rfl⟩, hb⟩; replace HB := HB.trans (hb.mono HB.size); clear hb)
  go_ret
  exact ⟨rfl, HB⟩
set_option maxHeartbeats 4000000 in
theorem size_right (A : Option Addr) (n c B : Nat) (L : List Mu.Part) (total : Int) (U : ByteArray) (w : World) (h : Ps w B A n L) (hB : B ≤ w.heap.size) (hn : n ≤ 16) (hU : U.size ≤ 40) (hf : Mu.bulk L ≤ 100000) (htab : Tab w)
    (cc : ∀ W, Below w.heap.size w W → Calls Tryd.prog 18 #[.slice A n c, .int .i64 total, .string U] W fun e w' => e = .returned .nilIface ∧ Below W.heap.size W w') :
    Calls Tryd.prog 13 #[.slice A n c, .int .i64 total, .string U] w fun e w' => e = .returned (.int .i64 ((Mu.put L total U.data.toList).length : Nat)) ∧ Below w.heap.size w w' := by
  have HL : Hid (L.length = n) := Lib.hid h.1
  have HC := Lib.hid h
  have HT := Lib.hid htab
  have HK : Hid (∀ j, j ≤ n → (pre L U.data.toList total j).length ≤ 102400) := Lib.hid fun j hj => by
    have h1 := Mu.put_len (n := 40) (L.take j) U.data.toList total (by rw [size_list]; exact hU)
    have h2 := Mu.bulk_le L j
    rw [List.length_take] at h1
    unfold pre
    have : min j L.length ≤ 16 := by omega
    have : min j L.length * (40 + 110) ≤ 16 * (40 + 110) := Nat.mul_le_mul_right _ this
    omega
  have hcs : (Str (Mu.close U.data.toList)).size = 6 + U.size := by
    rw [str_size]; unfold Mu.close; simp only [List.length_append, List.length_cons, List.length_nil, size_list]; omega
  have ccl := fun W => closing_any U W hU
  generalize Str (Mu.close U.data.toList) = C at *
  have HCS := Lib.hid hcs
  have HB := Below.refl w.heap.size w
  clear h hf htab hcs
  go_enter Tryd.func13, Tryd.ntmps13
  go_wp2_with (first
    | (go_at_call 18; refine (cc _ HB).mono ?_; rintro e w1 ⟨rfl, hb⟩; replace HB := HB.trans (hb.mono HB.size); clear hb)
    | (go_at_call 21; refine (ccl _).mono ?_; rintro e w1 ⟨rfl, rfl⟩))
  go_loopw [7, 20] (fun s i wr => ∃ k m : Nat, k ≤ n ∧ i = .int .i64 k ∧ s = .int .i64 m ∧ Hid (m = C.size + (pre L U.data.toList total k).length) ∧ Below w.heap.size w wr) (fun _ i _ => n - (intOf i).toNat)
  case atStart => exact ⟨0, C.size, by omega, rfl, rfl, Lib.hid rfl, HB⟩
  case round =>
    clear HB cc ccl
    obtain ⟨k, m, hk, rfl, rfl, HM, HB⟩ := hrel
    have hm : m ≤ 102446 := by have h1 := HM.out; have h2 := HK.out k hk; have h3 := HCS.out; omega
    by_cases hlt : k < n
    · have hkl : k < L.length := by rw [HL.out]; exact hlt
      have HP := HC.out.below (HB.mono hB)
      obtain ⟨b, off, rfl, hbB, hc⟩ := HP.2 (by omega)
      obtain ⟨e0, e1, A', c', e2, hlc, hbs⟩ := hc k hkl
      have HPUT := Mu.put_snoc hkl U.data.toList total
      have hk1 := HK.out (k + 1) (by omega)
      unfold pre at hk1
      rw [HPUT] at hk1
      have ch := fun W (hb : Below w.heap.size w W) => head_any L[k] total U W hU (HT.out.on hb)
      clear hc HP hbs
      generalize L[k] = p at *
      obtain ⟨pa, pb, body⟩ := p
      dsimp only at e0 e1 e2 hlc
      simp only [List.length_append] at hk1
      have hXl : (Str (Mu.head U.data.toList total (pa, pb, body))).size = (Mu.head U.data.toList total (pa, pb, body)).length := rfl
      change ∀ W, _ → Calls _ _ #[.agg #[.int .i64 pa, .int .i64 pb], _, _] W _ at ch
      have HPh := Lib.hid HPUT
      clear HPUT
      generalize Str (Mu.head U.data.toList total (pa, pb, body)) = X at *
      have hX : X.size ≤ 102400 := by omega
      have hbl : body.length ≤ 102400 := by omega
      have HX := Lib.hid hXl
      clear hXl hk1
      have hP := Lay.new HB pa pb (.slice A' body.length c') 43
      have w1 : IntKind.i64.wrap ((X.size : Int) + (body.length : Int)) = (X.size : Int) + (body.length : Int) := IntWalk.i64_in _ (by omega)
      have w2 : IntKind.i64.wrap ((X.size : Int) + (body.length : Int) + 2) = (X.size : Int) + (body.length : Int) + 2 := IntWalk.i64_in _ (by omega)
      have w3 : IntKind.i64.wrap ((m : Int) + ((X.size : Int) + (body.length : Int) + 2)) = (m : Int) + ((X.size : Int) + (body.length : Int) + 2) := IntWalk.i64_in _ (by omega)
      go_wp2
      go_region_held3 (fun w' => Below w.heap.size w w' ∧ wr.heap.size < w'.heap.size ∧ w'.cell? ⟨wr.heap.size, 0, none⟩ = some (.int .i64 pa) ∧ w'.cell? ⟨wr.heap.size, 1, none⟩ = some (.int .i64 pb) ∧ w'.cell? ⟨wr.heap.size, 2, none⟩ = some (.slice A' body.length c')) (exact hP)
        (first | (go_at_call 20; have hq := hP.1; (with_reducible refine (ch _ hq).mono ?_); clear hq; rintro e w' ⟨rfl, hb⟩; replace hP := Lay.next hP hb) | fail)
      go_wp2
      go_roundw
      case rel =>
        refine ⟨k + 1, m + (X.size + body.length + 2), by omega, by go_num, by go_num, ?_, hP.1⟩
        refine Lib.hid ?_
        unfold pre
        have h1 := HM.out
        have h2 := HX.out
        unfold pre at h1
        rw [HPh.out]
        simp only [List.length_append]
        unfold Mu.eol
        simp only [List.length_cons, List.length_nil]
        omega
      case measure => simp [intOf]; omega
    · obtain rfl : k = n := by omega
      have e : pre L U.data.toList total k = L.flatMap (Mu.piece U.data.toList total) := by
        unfold pre
        rw [List.take_of_length_le (by rw [HL.out]; omega)]
      have HE : Hid (m = (Mu.put L total U.data.toList).length) := Lib.hid (by
        rw [HM.out, e, HCS.out]
        unfold Mu.put Mu.close
        simp only [List.length_append, List.length_cons, List.length_nil, size_list]
        omega)
      clear e
      go_wp2
      go_ret
      exact ⟨ret_int (by rw [HE.out]), HB⟩

/-- the body in memory of the call's own, or the error of the arguments' -/
def PutTo (ok : Bool) (M : List UInt8) (w : World) (e : Ending) (w' : World) : Prop :=
  Below w.heap.size w w' ∧ ((ok = true ∧ ∃ A c, e = .returned (.tuple #[.slice A M.length c, .int .i64 0]) ∧ Bs w' w'.heap.size A M.length M ∧ M.length ≤ c) ∨ (ok = false ∧ e = .returned (.tuple #[.slice none 0 0, .int .i64 1])))
theorem put_wrong (A : Option Addr) (n c : Nat) (total : Int) (U : ByteArray) (w : World) (hE : Env w)
    (cc : ∀ W, Below w.heap.size w W → Calls Tryd.prog 18 #[.slice A n c, .int .i64 total, .string U] W (ArgTo W)) :
    Calls Tryd.prog 8 #[.slice A n c, .int .i64 total, .string U] w (PutTo false [] w) := by
  have HB := Below.refl w.heap.size w
  have HE := Lib.hid hE
  clear hE
  go_enter Tryd.func8, Tryd.ntmps8
  go_wp2_with (first
    | (go_at_call 18; refine (cc _ HB).mono ?_; rintro e w1 ⟨⟨x, rfl⟩, hb⟩; replace HB := HB.trans (hb.mono HB.size); replace HE := Lib.hid (HE.out.on hb); clear hb)
    | (go_at_call 19; refine (number_arg _ _ HE.out).mono ?_; rintro e w2 ⟨rfl, hb⟩; replace HB := HB.trans (hb.mono HB.size); clear hb))
  go_ret2
  exact ⟨HB, .inr ⟨rfl, rfl⟩⟩
theorem eol_text : (ByteArray.mk #[13, 10]).data.toList = Mu.eol := rfl

set_option maxHeartbeats 8000000 in
set_option maxRecDepth 100000 in
theorem put_right (A : Option Addr) (n c B : Nat) (L : List Mu.Part) (total : Int) (U : ByteArray) (w : World) (h : Ps w B A n L) (hB : B ≤ w.heap.size) (hn : n ≤ 16) (hU : U.size ≤ 40) (hf : Mu.bulk L ≤ 100000) (htab : Tab w)
    (cc : ∀ W, Below w.heap.size w W → Calls Tryd.prog 18 #[.slice A n c, .int .i64 total, .string U] W fun e w' => e = .returned .nilIface ∧ Below W.heap.size W w')
    (cz : ∀ W, Below w.heap.size w W → Calls Tryd.prog 13 #[.slice A n c, .int .i64 total, .string U] W fun e w' => e = .returned (.int .i64 ((Mu.put L total U.data.toList).length : Nat)) ∧ Below W.heap.size W w') :
    Calls Tryd.prog 8 #[.slice A n c, .int .i64 total, .string U] w (PutTo true (Mu.put L total U.data.toList) w) := by
  obtain ⟨i0, hi, hz, hsz, hby⟩ := info_parts u8_infoP
  have HI := Lib.hid hi
  have HZ := Lib.hid hz
  have HSZ := Lib.hid hsz
  have HBY := Lib.hid hby
  clear hi hz hsz hby
  have HL : Hid (L.length = n) := Lib.hid h.1
  have HC := Lib.hid h
  have HT := Lib.hid htab
  have HK : Hid (∀ j, j ≤ n → (pre L U.data.toList total j).length ≤ 102400) := Lib.hid fun j hj => by
    have h1 := Mu.put_len (n := 40) (L.take j) U.data.toList total (by rw [size_list]; exact hU)
    have h2 := Mu.bulk_le L j
    rw [List.length_take] at h1
    unfold pre
    have : min j L.length ≤ 16 := by omega
    have : min j L.length * (40 + 110) ≤ 16 * (40 + 110) := Nat.mul_le_mul_right _ this
    omega
  have HPL : Hid ((Mu.put L total U.data.toList).length ≤ 102500) := Lib.hid (by
    have h1 := HK.out n (Nat.le_refl _)
    have e : pre L U.data.toList total n = L.flatMap (Mu.piece U.data.toList total) := by
      unfold pre
      rw [List.take_of_length_le (by rw [HL.out]; omega)]
    rw [e] at h1
    unfold Mu.put Mu.close
    simp only [List.length_append, List.length_cons, List.length_nil, size_list]
    omega)
  obtain ⟨N, hN⟩ : ∃ N, N = (Mu.put L total U.data.toList).length := ⟨_, rfl⟩
  rw [← hN] at cz HPL
  have HN := Lib.hid hN
  clear hN
  have hcs : (Str (Mu.close U.data.toList)).size = 6 + U.size := by
    rw [str_size]; unfold Mu.close; simp only [List.length_append, List.length_cons, List.length_nil, size_list]; omega
  have hct := str_list (Mu.close U.data.toList)
  have ccl := fun W => closing_any U W hU
  generalize Str (Mu.close U.data.toList) = C at *
  have HCS := Lib.hid hcs
  have HCT := Lib.hid hct
  have HB := Below.refl w.heap.size w
  clear h hf htab hcs hct
  go_enter Tryd.func8, Tryd.ntmps8
  go_wp2_with (first
    | (go_at_call 18; refine (cc _ HB).mono ?_; rintro e w1 ⟨rfl, hb⟩; replace HB := HB.trans (hb.mono HB.size); clear hb)
    | (go_at_call 13; refine (cz _ HB).mono ?_; rintro e w1 ⟨rfl, hb⟩; replace HB := HB.trans (hb.mono HB.size); clear hb)
    | (at_make; refine wpList_make_own _ (o := ⟨some 24, _, _, _, _, _⟩) rfl (.const (.int .i64 0)) (.tmp 23) 25 rfl w.heap.size 5 i0 (.int .u8 0) 1 Tryd.underlying25 HI.out HZ.out HSZ.out .i64 .i64 (N : Int) N rfl rfl rfl (by rw [HBY.out]; have := HPL.out; omega) (by have := HPL.out; unfold maxLen; omega) HB.size ?_
       intro w2 HO0 HG0
       have HO1 : Hid (w2.ownsRow w.heap.size 5 1 (.slice (some ⟨_, 0, none⟩) 0 N) 0 (vals [])) := Lib.hid HO0
       replace HB := HB.grown HG0 HB.size (fun k hk => by cases hk)
       clear HO0 HG0))
  go_loopw [9, 27] (fun v i wr => ∃ (k : Nat) (u : Value), k ≤ n ∧ i = .int .i64 k ∧ u = v ∧ Hid (wr.ownsRow w.heap.size 5 1 u (pre L U.data.toList total k).length (vals (pre L U.data.toList total k))) ∧ Below w.heap.size w wr) (fun _ i _ => n - (intOf i).toNat)
  case atStart => exact ⟨0, _, by omega, rfl, rfl, HO1, HB⟩
  case round =>
    clear HB cc cz HO1
    obtain ⟨k, u, hk, rfl, rfl, HO, HB⟩ := hrel
    by_cases hlt : k < n
    · have hkl : k < L.length := by rw [HL.out]; exact hlt
      obtain ⟨b, off, rfl, hbB, hc⟩ := HC.out.2 (by omega)
      have hp := hc k hkl
      have hk0 := HK.out k (by omega)
      have HPUT := Mu.put_snoc hkl U.data.toList total
      have hk1 := HK.out (k + 1) (by omega)
      unfold pre at hk1
      rw [HPUT] at hk1
      have ch := fun W (hb : Below w.heap.size w W) => head_any L[k] total U W hU (HT.out.on hb)
      generalize L[k] = p at *
      obtain ⟨e0, e1, A', c', e2, hlc, hbs⟩ := hp.below (HB.mono hB) hbB
      obtain ⟨_, _, A2, c2, f2, _, hbs0⟩ := hp
      have hAA : A2 = A' := by
        have := ((HB.mono hB).cell (p := ⟨b, off + k * 3 + 2, none⟩) hbB).trans f2
        rw [e2] at this
        injection this with this
        injection this with this
        exact this.symm
      subst hAA
      have HBS := Lib.hid hbs0
      clear hc hbs hbs0 f2
      obtain ⟨pa, pb, body⟩ := p
      dsimp only at e0 e1 e2 hlc hk1
      simp only [List.length_append] at hk1
      have hXl : (Str (Mu.head U.data.toList total (pa, pb, body))).data.toList = Mu.head U.data.toList total (pa, pb, body) := str_list _
      have hXz : (Str (Mu.head U.data.toList total (pa, pb, body))).size = (Mu.head U.data.toList total (pa, pb, body)).length := rfl
      change ∀ W, _ → Calls _ _ #[.agg #[.int .i64 pa, .int .i64 pb], _, _] W _ at ch
      have HPh := Lib.hid HPUT
      clear HPUT
      generalize Str (Mu.head U.data.toList total (pa, pb, body)) = X at *
      have HXS : Hid (X.size ≤ 102400) := Lib.hid (by omega)
      have HBL : Hid (body.length ≤ 102400) := Lib.hid (by omega)
      have HX := Lib.hid hXl
      have F3 := Lib.hid (Three.new wr (.int .i64 pa) (.int .i64 pb) (.slice A2 body.length c') 43)
      have HK0 := Lib.hid hk0
      have hB0 := HB
      replace HB := Lib.hid (HB.alloc HB.size (.cells #[.int .i64 pa, .int .i64 pb, .slice A2 body.length c'] 43))
      replace hB0 := Lib.hid hB0
      clear hk1 hk0 hXl hXz
      go_wp2_with (first
        | (go_at_call 20; refine (ch _ HB.out).mono ?_; rintro e w1 ⟨rfl, hb⟩; have hw : Below wr.heap.size wr w1 := (below_new4 wr _).trans (hb.mono (by simp)); have hlt1 := HO.out.lt; replace HO := Lib.hid (own_at HO.out hw); replace HB := Lib.hid (HB.out.trans (hb.mono HB.out.size)); obtain ⟨n1, x1, y1, z1, _⟩ := F3.out.below hb; clear hb hw)
        | (at_builtin; refine Lib.wpList_append_own_string (o := ⟨some 37, _, _, _, _, _⟩) _ rfl (.tmp 31) (.tmp 36) 25 9 rfl w.heap.size 5 i0 Tryd.underlying25 Tryd.underlying9 HI.out HZ.out HSZ.out HBY.out u (pre L U.data.toList total k).length _ rfl HO.out X rfl (by have a := HXS.out; have b := HK0.out; unfold maxLen; omega) (by have a := HXS.out; have b := HK0.out; omega) HB.out.size ?_
           intro v1 w2 HO1 HG1 _
           rw [strCells_vals, vals_append] at HO1
           replace HO1 := Lib.hid HO1
           have z2 := (grown_cell HG1 (x := ⟨wr.heap.size, 2, none⟩) n1 (fun e => by have := (hlt1 _ e).2; exact absurd this (Nat.lt_irrefl _))).trans z1
           have HB2 := Lib.hid (HB.out.grown HG1 HB.out.size (fun k hk => (HO.out.lt k hk).1)))
        | (at_builtin; refine wpList_append_bytes (o := ⟨some 41, _, _, _, _, _⟩) rfl (.tmp 38) (.tmp 40) 25 rfl w.heap.size 5 i0 Tryd.underlying25 HI.out HZ.out HSZ.out HBY.out v1 ((pre L U.data.toList total k).length + X.size) _ rfl HO1.out B A2 body.length c' body rfl (HBS.out.below (HB2.out.mono hB)) (by have a := HXS.out; have b := HK0.out; have c := HBL.out; omega) HB2.out.size ?_
           intro v2 w3 HO2 HG2
           have HB3 := Lib.hid (HB2.out.grown HG2.out HB2.out.size (fun k hk => (HO1.out.lt k hk).1)))
        | (at_builtin; refine Lib.wpList_append_own_string (o := ⟨some 43, _, _, _, _, _⟩) _ rfl (.tmp 42) (.const (.string ⟨#[13, 10]⟩)) 25 9 rfl w.heap.size 5 i0 Tryd.underlying25 Tryd.underlying9 HI.out HZ.out HSZ.out HBY.out v2 ((pre L U.data.toList total k).length + X.size + body.length) _ rfl HO2.out ⟨#[13, 10]⟩ rfl (by have a := HXS.out; have b := HK0.out; have c := HBL.out; show _ + 2 ≤ _; unfold maxLen; omega) (by have a := HXS.out; have b := HK0.out; have c := HBL.out; show _ + 2 ≤ _; omega) HB3.out.size ?_
           intro v3 w4 HO3 HG3 _
           rw [strCells_vals, vals_append] at HO3
           replace HO3 := Lib.hid HO3
           have HB4 := Lib.hid (HB3.out.grown HG3 HB3.out.size (fun k hk => (HO2.out.lt k hk).1))))
      go_roundw
      case rel =>
        refine ⟨k + 1, _, by omega, by go_num, rfl, ?_, HB4.out⟩
        have e : pre L U.data.toList total (k + 1) = (pre L U.data.toList total k) ++ X.data.toList ++ body ++ Mu.eol := by
          unfold pre
          rw [HPh.out, HX.out]
        have hlen : (pre L U.data.toList total (k + 1)).length = (pre L U.data.toList total k).length + X.size + body.length + 2 := by
          rw [e, List.length_append, List.length_append, List.length_append, size_list]; rfl
        rw [hlen, e]
        exact HO3
      case measure => simp [intOf]; omega
    · obtain rfl : k = n := by omega
      have e : pre L U.data.toList total k = L.flatMap (Mu.piece U.data.toList total) := by
        unfold pre
        rw [List.take_of_length_le (by rw [HL.out]; omega)]
      have HE := Lib.hid e
      have HK0 := Lib.hid (HK.out k (by omega))
      clear e
      go_wp2_with (first
        | (go_at_call 21; refine (ccl _).mono ?_; rintro e w1 ⟨rfl, rfl⟩)
        | (at_builtin; refine Lib.wpList_append_own_string (o := ⟨some 48, _, _, _, _, _⟩) _ rfl (.tmp 45) (.tmp 47) 25 9 rfl w.heap.size 5 i0 Tryd.underlying25 Tryd.underlying9 HI.out HZ.out HSZ.out HBY.out u (pre L U.data.toList total k).length _ rfl HO.out C rfl (by have a := HCS.out; have b := HK0.out; unfold maxLen; omega) (by have a := HCS.out; have b := HK0.out; omega) HB.size ?_
           intro v1 w2 HO1 HG1 _
           rw [strCells_vals, vals_append] at HO1
           replace HO1 := Lib.hid HO1
           have HB2 := HB.grown HG1 HB.size (fun k hk => (HO.out.lt k hk).1)))
      go_ret2
      obtain ⟨A3, c3, rfl, hb3, hc3⟩ := own_bs HO1.out
      have e2 : (pre L U.data.toList total k) ++ C.data.toList = Mu.put L total U.data.toList := by
        rw [HE.out, HCT.out]; rfl
      have e3 : (pre L U.data.toList total k).length + C.size = (Mu.put L total U.data.toList).length := by
        rw [← e2, List.length_append, size_list]
      rw [e2, e3] at hb3
      rw [e3] at hc3
      rw [e3]
      exact ⟨HB2, .inl ⟨rfl, A3, c3, rfl, hb3, hc3⟩⟩
theorem put_any (A : Option Addr) (n c B : Nat) (L : List Mu.Part) (total : Int) (U : ByteArray) (w : World) (h : Ps w B A n L) (hB : B ≤ w.heap.size) (hn : n ≤ 9223372036854775807) (hU : U.size ≤ 9223372036854775807) (hf : Mu.bulk L ≤ 100000) (hE : Env w) :
    Calls Tryd.prog 8 #[.slice A n c, .int .i64 total, .string U] w (PutTo (Mu.fine L total U.data.toList) (if Mu.fine L total U.data.toList then Mu.put L total U.data.toList else []) w) := by
  cases hok : Mu.fine L total U.data.toList with
  | true =>
    have hok2 := hok
    unfold Mu.fine at hok2
    rw [Bool.and_eq_true] at hok2
    obtain ⟨h1, h2⟩ := hok2
    have hn16 := (Mu.right_parts h1).2.2.1
    rw [h.1] at hn16
    have hU40 : U.size ≤ 40 := by
      unfold Mu.may at h2
      rw [Bool.and_eq_true, decide_eq_true_eq, size_list] at h2
      omega
    have cc := fun W (hb : Below w.heap.size w W) => check_yes A n c B L total U W (h.below (hb.mono hB)) (Nat.le_trans hB hb.size) hn hU hok
    exact put_right A n c B L total U w h hB hn16 hU40 hf hE.1 cc (fun W hb => size_right A n c B L total U W (h.below (hb.mono hB)) (Nat.le_trans hB hb.size) hn16 hU40 hf (hE.1.on hb) (fun W2 hb2 => cc W2 (hb.trans (hb2.mono hb.size))))
  | false => exact put_wrong A n c total U w hE (fun W hb => check_no A n c B L total U W (h.below (hb.mono hB)) (Nat.le_trans hB hb.size) hn hU hok)
theorem size_any (A : Option Addr) (n c B : Nat) (L : List Mu.Part) (total : Int) (U : ByteArray) (w : World) (h : Ps w B A n L) (hB : B ≤ w.heap.size) (hn : n ≤ 9223372036854775807) (hU : U.size ≤ 9223372036854775807) (hf : Mu.bulk L ≤ 100000) (hE : Env w) :
    Calls Tryd.prog 13 #[.slice A n c, .int .i64 total, .string U] w fun e w' => e = .returned (.int .i64 ((if Mu.fine L total U.data.toList then Mu.put L total U.data.toList else []).length : Nat)) ∧ Below w.heap.size w w' := by
  cases hok : Mu.fine L total U.data.toList with
  | true =>
    have hok2 := hok
    unfold Mu.fine at hok2
    rw [Bool.and_eq_true] at hok2
    obtain ⟨h1, h2⟩ := hok2
    have hn16 := (Mu.right_parts h1).2.2.1
    rw [h.1] at hn16
    have hU40 : U.size ≤ 40 := by
      unfold Mu.may at h2
      rw [Bool.and_eq_true, decide_eq_true_eq, size_list] at h2
      omega
    exact size_right A n c B L total U w h hB hn16 hU40 hf hE.1 (fun W hb => check_yes A n c B L total U W (h.below (hb.mono hB)) (Nat.le_trans hB hb.size) hn hU hok)
  | false => exact size_wrong A n c total U w (fun W hb => check_no A n c B L total U W (h.below (hb.mono hB)) (Nat.le_trans hB hb.size) hn hU hok)
end Go.Proofs.YtlilkcbhlinolaaDoor
