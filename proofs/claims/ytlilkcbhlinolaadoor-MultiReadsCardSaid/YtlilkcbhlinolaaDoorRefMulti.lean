/-
  Contracts of the document's own Multi, and of the law's Few.
-/
import Derived.Test.YtlilkcbhlinolaaDoorRefParts
import Derived.Test.YtlilkcbhlinolaaDoorRefCrangePrint
import Derived.Test.YtlilkcbhlinolaaDoorBytesAppend
import Derived.Lib.AppendStr
namespace Go.Proofs.YtlilkcbhlinolaaDoor
open Go.ChangeShapes Go.WideShapes Go.ChangeAt Go.RowKit

theorem u8_infoP : (Tryd.prog.info? 5).map (fun i => (i.zero, i.size, i.bytes)) = some (some (.int .u8 0), 1, 1) := by kernel_rfl
theorem own_at {w w' : World} {base size : Nat} {T : TypeId} {v : Value} {n : Nat} {xs : List Value} (h : w.ownsRow base T size v n xs) (hb : Below w.heap.size w w') : w'.ownsRow base T size v n xs :=
  h.kept (row := none) ⟨hb.os, hb.tape, hb.output, hb.size, fun k hk _ => hb.block k hk⟩ (Classical.em _)
theorem strCells_vals (s : ByteArray) : Lib.strCells s = vals s.data.toList := by unfold Lib.strCells vals; simp

set_option maxHeartbeats 1000000 in
theorem few_any (A : Option Addr) (n c B : Nat) (L : List Mu.Part) (w : World) (h : Ps w B A n L) (hB : B ≤ w.heap.size) (hn : n ≤ 9223372036854775807) (hl : ∀ p ∈ L, p.2.2.length ≤ 140737488355328) :
    Calls Tryd.prog 7 #[.slice A n c] w fun e w' => e = .returned (.bool (Mu.few L)) ∧ Below w.heap.size w w' := by
  have HL : Hid (L.length = n) := Lib.hid h.1
  have HC := Lib.hid h
  have HM := Lib.hid hl
  clear h hl
  go_enter Tryd.func7, Tryd.ntmps7
  go_wp2
  go_loopw [3, 8] (fun s i wr => ∃ k m : Nat, k ≤ n ∧ i = .int .i64 k ∧ s = .int .i64 m ∧ m ≤ 2000 ∧ Hid (m = Mu.bulk (L.take k)) ∧ Below w.heap.size w wr) (fun _ i _ => n - (intOf i).toNat)
  case atStart => exact ⟨0, 0, by omega, rfl, rfl, by omega, Lib.hid rfl, Below.refl _ _⟩
  case round =>
    obtain ⟨k, m, hk, rfl, rfl, hm, HT, HB⟩ := hrel
    by_cases hlt : k < n
    · have hkl : k < L.length := by rw [HL.out]; exact hlt
      have HP := HC.out.below (HB.mono hB)
      obtain ⟨b, off, rfl, hbB, hc⟩ := HP.2 (by omega)
      obtain ⟨e0, e1, A', c', e2, hlc, hbs⟩ := hc k hkl
      have hbl := HM.out _ (List.getElem_mem hkl)
      have HS := Mu.bulk_snoc hkl
      have HLE := Mu.bulk_le L (k + 1)
      clear hc HP hbs
      generalize L[k] = p at *
      obtain ⟨pa, pb, body⟩ := p
      dsimp only at e0 e1 e2 hlc hbl HS
      have HSh := Lib.hid HS
      have HLEh := Lib.hid HLE
      clear HS HLE
      by_cases hq : 2000 < m + body.length
      · have hq2 : (2000 : Int) < (m : Int) + (body.length : Int) := by omega
        go_wp2
        go_ret
        refine ⟨ret_bool ?_, HB.alloc HB.size _⟩
        unfold Mu.few
        rw [decide_eq_false (show ¬ Mu.bulk L ≤ 2000 by have h1 := HSh.out; have h2 := HLEh.out; have h3 := HT.out; omega)]
        rfl
      · have hq2 : (m : Int) + (body.length : Int) ≤ 2000 := by omega
        go_wp2
        go_roundw
        case rel => exact ⟨k + 1, m + body.length, by omega, by go_num, by go_num, by omega, Lib.hid (by rw [HSh.out, HT.out]), HB.alloc HB.size _⟩
        case measure => simp [intOf]; omega
    · have HA : Hid (Mu.bulk L ≤ 2000) := Lib.hid (by have h3 := HT.out; rw [List.take_of_length_le (by rw [HL.out]; omega)] at h3; omega)
      go_wp2
      go_ret
      refine ⟨ret_bool ?_, HB⟩
      unfold Mu.few
      rw [decide_eq_true HA.out, HL.out, Bool.true_and]

/-- the body as the document has it, in memory of the call's own, or none -/
def MulTo (is : Bool) (M : List UInt8) (w : World) (e : Ending) (w' : World) : Prop :=
  ∃ A c, e = .returned (.tuple #[.slice A M.length c, .bool is]) ∧ Bs w' w'.heap.size A M.length M ∧ M.length ≤ c ∧ Below w.heap.size w w'

theorem refMulti_no (A : Option Addr) (n c : Nat) (total : Int) (U : ByteArray) (tk sm r : Bool) (w : World) (hn : (tk && sm && r) = false) (hs : decide ((40 : Int) < (U.size : Int)) = !sm)
    (ct : ∀ W, Calls Tryd.prog 16 #[.string U] W fun e w' => e = .returned (.bool tk) ∧ W = w')
    (cr : ∀ W, Below w.heap.size w W → Calls Tryd.prog 11 #[.slice A n c, .int .i64 total] W fun e w' => e = .returned (.bool r) ∧ Below W.heap.size W w') :
    Calls Tryd.prog 9 #[.slice A n c, .int .i64 total, .string U] w (MulTo false [] w) := by
  have HB := Below.refl w.heap.size w
  cases tk
  case' true =>
    cases sm
    case' true =>
      cases r
      case' true => cases hn
  all_goals
    go_enter Tryd.func9, Tryd.ntmps9
    go_wp2_with (first
      | (go_at_call 16; refine (ct _).mono ?_; rintro e w1 ⟨rfl, rfl⟩)
      | (go_at_call 11; refine (cr _ HB).mono ?_; rintro e w1 ⟨rfl, hb⟩; replace HB := HB.trans (hb.mono HB.size)))
    go_ret2
    exact ⟨none, 0, rfl, Bs.nil _ _ _, Nat.le_refl _, HB⟩

theorem eol_block (w : World) (T : TypeId) : Bs (w.alloc (.cells #[.int .u8 13, .int .u8 10] T)) (w.heap.size + 1) (some ⟨w.heap.size, 0, none⟩) 2 Mu.eol := by
  refine ⟨rfl, fun _ => ⟨w.heap.size, 0, rfl, by omega, fun j hj => ?_⟩⟩
  rw [World.cell?_alloc_new]
  match j, hj with
  | 0, _ => rfl
  | 1, _ => rfl

theorem grown_cell {w w' : World} {row : Option Nat} (h : w.grownBy w' row) {x : Addr} (hx : x.block < w.heap.size) (hne : row ≠ some x.block) : w'.cell? x = w.cell? x :=
  World.cell?_of_block (w := w) (h.block x.block hx (fun e => hne e.symm))
def pre (L : List Mu.Part) (bound : List UInt8) (total : Int) (k : Nat) : List UInt8 := (L.take k).flatMap (Mu.piece bound total)
theorem head_text (U X : ByteArray) (total : Int) (p : Mu.Part) (hX : X.data.toList = Cr.printL true p.1 p.2.1 total) :
    (({ data := #[45, 45] } : ByteArray) ++ U ++ { data := #[13, 10, 67, 111, 110, 116, 101, 110, 116, 45, 82, 97, 110, 103, 101, 58, 32] } ++ X ++ { data := #[13, 10, 13, 10] }).data.toList = Mu.head U.data.toList total p := by
  rw [cat_list, cat_list, cat_list, cat_list, hX]; rfl
theorem close_text (U : ByteArray) : (({ data := #[45, 45] } : ByteArray) ++ U ++ { data := #[45, 45, 13, 10] }).data.toList = Mu.close U.data.toList := by
  rw [cat_list, cat_list]; rfl

theorem head_size (U X : ByteArray) : (({ data := #[45, 45] } : ByteArray) ++ U ++ { data := #[13, 10, 67, 111, 110, 116, 101, 110, 116, 45, 82, 97, 110, 103, 101, 58, 32] } ++ X ++ { data := #[13, 10, 13, 10] }).size = 23 + U.size + X.size := by
  simp only [ByteArray.size_append]
  have a1 : (ByteArray.mk #[45, 45]).size = 2 := rfl
  have a2 : (ByteArray.mk #[13, 10, 67, 111, 110, 116, 101, 110, 116, 45, 82, 97, 110, 103, 101, 58, 32]).size = 17 := rfl
  have a3 : (ByteArray.mk #[13, 10, 13, 10]).size = 4 := rfl
  omega
theorem close_size (U : ByteArray) : (({ data := #[45, 45] } : ByteArray) ++ U ++ { data := #[45, 45, 13, 10] }).size = 6 + U.size := by
  simp only [ByteArray.size_append]
  have a1 : (ByteArray.mk #[45, 45]).size = 2 := rfl
  have a2 : (ByteArray.mk #[45, 45, 13, 10]).size = 4 := rfl
  omega

set_option maxHeartbeats 8000000 in
set_option maxRecDepth 100000 in
theorem refMulti_yes (A : Option Addr) (n c B : Nat) (L : List Mu.Part) (total : Int) (U : ByteArray) (w : World) (h : Ps w B A n L) (hB : B ≤ w.heap.size) (hn : n ≤ 16) (hU : U.size ≤ 40) (hf : Mu.bulk L ≤ 100000)
    (ct : ∀ W, Calls Tryd.prog 16 #[.string U] W fun e w' => e = .returned (.bool true) ∧ W = w')
    (cr : ∀ W, Below w.heap.size w W → Calls Tryd.prog 11 #[.slice A n c, .int .i64 total] W fun e w' => e = .returned (.bool true) ∧ Below W.heap.size W w') :
    Calls Tryd.prog 9 #[.slice A n c, .int .i64 total, .string U] w (MulTo true (Mu.put L total U.data.toList) w) := by
  obtain ⟨i0, hi, hz, hsz, hby⟩ := info_parts u8_infoP
  have HI := Lib.hid hi
  have HZ := Lib.hid hz
  have HSZ := Lib.hid hsz
  have HBY := Lib.hid hby
  clear hi hz hsz hby
  have HL : Hid (L.length = n) := Lib.hid h.1
  have HC := Lib.hid h
  have hU2 : (U.size : Int) ≤ 40 := by omega
  have HK : Hid (∀ j, j ≤ n → (pre L U.data.toList total j).length ≤ 102400) := Lib.hid fun j hj => by
    have h1 := Mu.put_len (n := 40) (L.take j) U.data.toList total (by rw [size_list]; exact hU)
    have h2 := Mu.bulk_le L j
    rw [List.length_take] at h1
    unfold pre
    have : min j L.length ≤ 16 := by omega
    have : min j L.length * (40 + 110) ≤ 16 * (40 + 110) := Nat.mul_le_mul_right _ this
    omega
  have HB := Below.refl w.heap.size w
  clear h hf
  go_enter Tryd.func9, Tryd.ntmps9
  go_wp2_with (first
    | (go_at_call 16; refine (ct _).mono ?_; rintro e w1 ⟨rfl, rfl⟩)
    | (go_at_call 11; refine (cr _ HB).mono ?_; rintro e w1 ⟨rfl, hb⟩; replace HB := HB.trans (hb.mono HB.size)))
  go_loopw [8, 28] (fun v i wr => ∃ (k : Nat) (u : Value), k ≤ n ∧ i = .int .i64 k ∧ u = v ∧ Hid (wr.ownsRow w.heap.size 5 1 u (pre L U.data.toList total k).length (vals (pre L U.data.toList total k))) ∧ Below w.heap.size w wr) (fun _ i _ => n - (intOf i).toNat)
  case atStart => exact ⟨0, _, by omega, rfl, rfl, Lib.hid (World.ownsRow_nil _ _ _ _), HB⟩
  case round =>
    clear HB ct cr
    obtain ⟨k, u, hk, rfl, rfl, HO, HB⟩ := hrel
    by_cases hlt : k < n
    · have hkl : k < L.length := by rw [HL.out]; exact hlt
      obtain ⟨b, off, rfl, hbB, hc⟩ := HC.out.2 (by omega)
      have hp := hc k hkl
      have hk0 := HK.out k (by omega)
      have HPUT := Mu.put_snoc hkl U.data.toList total
      have hk1 := HK.out (k + 1) (by omega)
      unfold pre at hk1
      rw [HPUT] at hk1
      generalize L[k] = p at *
      obtain ⟨e0, e1, A', c', e2, hlc, hbs⟩ := hp.below (HB.mono hB) hbB
      obtain ⟨_, _, A2, c2, f2, _, hbs0⟩ := hp
      have hAA : A2 = A' := by
        have := ((HB.mono hB).cell (p := ⟨b, off + k * 3 + 2, none⟩) hbB).trans f2
        rw [e2] at this
        injection this with this
        injection this with this
        exact this.symm
      subst hAA
      have HBS := Lib.hid hbs0
      clear hc hbs hbs0 f2
      obtain ⟨pa, pb, body⟩ := p
      dsimp only at e0 e1 e2 hlc hk1
      have hX := Cr.print_len true pa pb total
      have HX := Lib.hid (head_text U (Str (Cr.printL true pa pb total)) total (pa, pb, body) (str_list _))
      have cpc := fun W => refPC_any true pa pb total W
      have HXs : (Str (Cr.printL true pa pb total)).size ≤ 80 := by rw [str_size]; exact hX
      generalize Str (Cr.printL true pa pb total) = X at *
      have F3 := Lib.hid (Three.new wr (.int .i64 pa) (.int .i64 pb) (.slice A2 body.length c') 43)
      have s1 : 2 + U.size ≤ 9223372036854775807 := by omega
      have s2 : 2 + U.size + 17 ≤ 9223372036854775807 := by omega
      have s3 : 2 + U.size + 17 + X.size ≤ 9223372036854775807 := by omega
      have s4 : 2 + U.size + 17 + X.size + 4 ≤ 9223372036854775807 := by omega
      have HBL : Hid (body.length ≤ 102400) := Lib.hid (by simp only [List.length_append] at hk1; omega)
      have HPh := Lib.hid HPUT
      have HK0 := Lib.hid hk0
      clear hX hk1 hk0 HPUT
      go_wp2_with (first
        | (go_at_call 22; refine (cpc _).mono ?_; rintro e w1 ⟨rfl, hb⟩; have hw : Below wr.heap.size wr w1 := (below_new4 wr _).trans (hb.mono (by simp)); have hlt1 := HO.out.lt; replace HO := Lib.hid (own_at HO.out hw); replace HB := HB.trans (hw.mono HB.size); obtain ⟨n1, x1, y1, z1, _⟩ := F3.out.below hb; clear hb hw)
        | (at_builtin; refine Lib.wpList_append_own_string (o := ⟨some 44, _, _, _, _, _⟩) _ rfl (.tmp 42) (.tmp 43) 25 9 rfl w.heap.size 5 i0 Tryd.underlying25 Tryd.underlying9 HI.out HZ.out HSZ.out HBY.out u (pre L U.data.toList total k).length _ rfl HO.out (({ data := #[45, 45] } : ByteArray) ++ U ++ { data := #[13, 10, 67, 111, 110, 116, 101, 110, 116, 45, 82, 97, 110, 103, 101, 58, 32] } ++ X ++ { data := #[13, 10, 13, 10] }) rfl (by rw [head_size]; have b := HK0.out; unfold maxLen; omega) (by rw [head_size]; have b := HK0.out; omega) HB.size ?_
           intro v1 w2 HO1 HG1 _
           rw [strCells_vals, vals_append] at HO1
           replace HO1 := Lib.hid HO1
           have z2 := (grown_cell HG1 (x := ⟨wr.heap.size, 2, none⟩) n1 (fun e => by have := (hlt1 _ e).2; exact absurd this (Nat.lt_irrefl _))).trans z1
           have HB2 := HB.grown HG1 HB.size (fun k hk => (HO.out.lt k hk).1))
        | (at_builtin; refine wpList_append_bytes (o := ⟨some 48, _, _, _, _, _⟩) rfl (.tmp 45) (.tmp 47) 25 rfl w.heap.size 5 i0 Tryd.underlying25 HI.out HZ.out HSZ.out HBY.out v1 ((pre L U.data.toList total k).length + (({ data := #[45, 45] } : ByteArray) ++ U ++ { data := #[13, 10, 67, 111, 110, 116, 101, 110, 116, 45, 82, 97, 110, 103, 101, 58, 32] } ++ X ++ { data := #[13, 10, 13, 10] }).size) _ rfl HO1.out B A2 body.length c' body rfl (HBS.out.below (HB2.mono hB)) (by rw [head_size]; have b := HK0.out; have c := HBL.out; omega) HB2.size ?_
           intro v2 w3 HO2 HG2
           have HB3 := HB2.grown HG2.out HB2.size (fun k hk => (HO1.out.lt k hk).1))
        | (at_builtin; refine wpList_append_bytes (o := ⟨some 51, _, _, _, _, _⟩) rfl (.tmp 49) (.tmp 50) 25 rfl w.heap.size 5 i0 Tryd.underlying25 HI.out HZ.out HSZ.out HBY.out v2 ((pre L U.data.toList total k).length + (({ data := #[45, 45] } : ByteArray) ++ U ++ { data := #[13, 10, 67, 111, 110, 116, 101, 110, 116, 45, 82, 97, 110, 103, 101, 58, 32] } ++ X ++ { data := #[13, 10, 13, 10] }).size + body.length) _ rfl (HO2.out.alloc _) (w3.heap.size + 1) (some ⟨w3.heap.size, 0, none⟩) 2 2 Mu.eol rfl (eol_block w3 _) (by rw [head_size]; have b := HK0.out; have c := HBL.out; omega) ((HB3.alloc HB3.size _).size) ?_
           intro v3 w4 HO3 HG3
           have HB4 := (HB3.alloc HB3.size _).grown HG3.out ((HB3.alloc HB3.size _).size) (fun k hk => (HO2.out.lt k hk).1)))
      go_roundw
      case rel =>
        refine ⟨k + 1, _, by omega, by go_num, rfl, ?_, HB4⟩
        have e : pre L U.data.toList total (k + 1) = (pre L U.data.toList total k) ++ (({ data := #[45, 45] } : ByteArray) ++ U ++ { data := #[13, 10, 67, 111, 110, 116, 101, 110, 116, 45, 82, 97, 110, 103, 101, 58, 32] } ++ X ++ { data := #[13, 10, 13, 10] }).data.toList ++ body ++ Mu.eol := by
          unfold pre
          rw [HPh.out, HX.out]
        rw [e]
        have hlen : ((pre L U.data.toList total k) ++ (({ data := #[45, 45] } : ByteArray) ++ U ++ { data := #[13, 10, 67, 111, 110, 116, 101, 110, 116, 45, 82, 97, 110, 103, 101, 58, 32] } ++ X ++ { data := #[13, 10, 13, 10] }).data.toList ++ body ++ Mu.eol).length = (pre L U.data.toList total k).length + (({ data := #[45, 45] } : ByteArray) ++ U ++ { data := #[13, 10, 67, 111, 110, 116, 101, 110, 116, 45, 82, 97, 110, 103, 101, 58, 32] } ++ X ++ { data := #[13, 10, 13, 10] }).size + body.length + 2 := by
          rw [List.length_append, List.length_append, List.length_append, size_list]; rfl
        rw [hlen]
        exact HO3
      case measure => simp [intOf]; omega
    · obtain rfl : k = n := by omega
      have e : pre L U.data.toList total k = L.flatMap (Mu.piece U.data.toList total) := by
        unfold pre
        rw [List.take_of_length_le (by rw [HL.out]; omega)]
      have HE := Lib.hid e
      have HK0 := Lib.hid (HK.out k (by omega))
      have HX := Lib.hid (close_text U)
      have s1 : 2 + U.size ≤ 9223372036854775807 := by omega
      have s2 : 2 + U.size + 4 ≤ 9223372036854775807 := by omega
      clear e
      go_wp2_with (first
        | (at_builtin; refine Lib.wpList_append_own_string (o := ⟨some 57, _, _, _, _, _⟩) _ rfl (.tmp 53) (.tmp 56) 25 9 rfl w.heap.size 5 i0 Tryd.underlying25 Tryd.underlying9 HI.out HZ.out HSZ.out HBY.out u (pre L U.data.toList total k).length _ rfl HO.out (({ data := #[45, 45] } : ByteArray) ++ U ++ { data := #[45, 45, 13, 10] }) rfl (by rw [close_size]; have b := HK0.out; unfold maxLen; omega) (by rw [close_size]; have b := HK0.out; omega) HB.size ?_
           intro v1 w2 HO1 HG1 _
           rw [strCells_vals, vals_append] at HO1
           replace HO1 := Lib.hid HO1
           have HB2 := HB.grown HG1 HB.size (fun k hk => (HO.out.lt k hk).1)))
      go_ret2
      obtain ⟨A3, c3, rfl, hb3, hc3⟩ := own_bs HO1.out
      have e2 : (pre L U.data.toList total k) ++ (({ data := #[45, 45] } : ByteArray) ++ U ++ { data := #[45, 45, 13, 10] }).data.toList = Mu.put L total U.data.toList := by
        rw [HE.out, HX.out]; rfl
      have e3 : (pre L U.data.toList total k).length + (({ data := #[45, 45] } : ByteArray) ++ U ++ { data := #[45, 45, 13, 10] }).size = (Mu.put L total U.data.toList).length := by
        rw [← e2, List.length_append, size_list]
      rw [e2, e3] at hb3
      rw [e3] at hc3
      rw [e3]
      exact ⟨A3, c3, rfl, hb3, hc3, HB2⟩
end Go.Proofs.YtlilkcbhlinolaaDoor
