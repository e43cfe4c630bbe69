/-
  The law's within: each used page of one is one of another one, or its first bytes.
-/
import Derived.Test.YtgnncbbfbhipaaaCrashAlike
import Derived.BigQuiet
import Derived.Deep.CutRange
import Derived.Deep.CutBlock
namespace Go.Proofs.Ytgnncbbfbhipaaa
open Go.ChangeShapes Go.WideShapes Go.ChangeAt Go.RowKit Fl

/-- how many bytes two rows have in common in front -/
def cmn : List UInt8 → List UInt8 → Nat
  | x :: xs, y :: ys => if x = y then cmn xs ys + 1 else 0
  | _, _ => 0
theorem cmn_is : ∀ (x y : List UInt8) (n : Nat), x.length = y.length → n ≤ x.length → x.take n = y.take n → (n = x.length ∨ ∃ (h : n < x.length) (h2 : n < y.length), x[n] ≠ y[n]) → cmn x y = n
  | [], y, n, _, hn, _, _ => by
    have : n = 0 := by simpa using hn
    subst this
    cases y <;> rfl
  | a :: x, [], n, hl, _, _, _ => by simp at hl
  | a :: x, b :: y, 0, _, _, _, h => by
    rcases h with h | ⟨_, _, h⟩
    · simp at h
    · unfold cmn
      rw [if_neg (by simpa using h)]
  | a :: x, b :: y, n + 1, hl, hn, ht, h => by
    simp only [List.take_succ_cons, List.cons.injEq] at ht
    obtain ⟨rfl, ht⟩ := ht
    have := cmn_is x y n (by simpa using hl) (by simpa using hn) ht (by
      rcases h with h | ⟨h1, h2, h3⟩
      · exact .inl (by simpa using h)
      · exact .inr ⟨by simpa using h1, by simpa using h2, by simpa using h3⟩)
    unfold cmn
    rw [if_pos rfl, this]
def within1 (B : Nat) (N : List Pg) (q : Pg) : Bool := match lk N q.seg q.page with | none => false | some r => ((full B q.raw).drop (cmn (full B q.raw) (full B r))).all fun z => decide (z = 255)
def withinB (B : Nat) (M N : List Pg) : Bool := M.all (within1 B N)
/-- what stands behind the first k bytes: where it lies -/
def behind0 (A : Option Addr) (c k : Nat) : Option Addr := if c = k then A else A.map (·.add k)
theorem slice_from0 (A : Option Addr) (n c k : Nat) (h : k ≤ n) (w : World) :
    (Instr.slice 46 (.slice A n c) (some (.int .i64 (k : Int))) none none).run Try.prog w = .ok (.slice (behind0 A c k) (n - k) (c - k)) w := by
  have h1 := run_slice_l (P := Try.prog) w 46 A n c (by kernel_rfl) .i64 (k : Int) (by omega) (by omega)
  have h2 : (sizeOf (Try.prog.elem 46)).run Try.prog w = .ok 1 w := by kernel_rfl
  rw [h1, h2]
  simp [sliced, Result.andThen, behind0]
/-- .. and room enough -/
theorem copied_at2 {w : World} {v : Nat → Nat} {k S P B cb : Nat} {N : List Pg} (h : Rdv w v k S P B cb N) {j : Nat} (hj : j < N.length) :
    ∃ g cu A c, w.cell? ⟨cb, 3, none⟩ = some (.slice (some ⟨g, 0, none⟩) N.length cu) ∧ w.cell? ⟨g, j * 4, none⟩ = some (.int .i64 N[j].seg) ∧ w.cell? ⟨g, j * 4 + 1, none⟩ = some (.int .i64 N[j].page) ∧ w.cell? ⟨g, j * 4 + 2, none⟩ = some (.slice A B c) ∧
      w.cell? ⟨g, j * 4 + 3, none⟩ = some (.bool N[j].dirty) ∧ Bs w w.heap.size A B (full B N[j].raw) ∧ B ≤ c := by
  obtain ⟨u, Q, -, -, -, -, c3, -, hQ, hown, -, hdat⟩ := h.four
  rcases own_form hown with ⟨_, _, h0⟩ | ⟨g, c', rfl, hgl, _⟩
  · omega
  have hQL : Q.length = N.length := by rw [← hQ, List.length_map]
  obtain ⟨e0, e1, e2, e3, -⟩ := own_quad hown hQL hj
  obtain ⟨A, c, hx, hc, hbs, -⟩ := hdat _ (List.getElem_mem (show j < Q.length by omega))
  have hLQ : N[j] = (Q[j]'(by omega)).1 := by simp [← hQ]
  rw [full_length] at hx hbs hc
  rw [hx] at e2
  rw [hLQ]
  exact ⟨g, c', A, c, c3, e0, e1, e2, e3, hbs, hc⟩
section
variable {k k2 S P B xb yb : Nat} {w : World} {v v2 : Nat → Nat} {M N : List Pg}
set_option maxHeartbeats 8000000 in
set_option maxRecDepth 100000 in
theorem within_any (hx : Rdv w v k S P B xb M) (hy : Rdv w v2 k2 S P B yb N) (hM : M.length ≤ 1000) (hN : N.length ≤ 1000) :
    Calls Try.prog 20 #[.pointer (some ⟨xb, 0, none⟩), .pointer (some ⟨yb, 0, none⟩)] w fun e w' => e = .returned (.bool (withinB B M N)) ∧ Below w.heap.size w w' := by
  obtain ⟨A0, cu0, c3⟩ := copied_row hx
  obtain ⟨-, -, -, x0, x1, x2, -⟩ := hx.four
  obtain ⟨-, -, -, y0, y1, y2, -⟩ := hy.four
  obtain ⟨L, hL⟩ : ∃ L, L = M.length := ⟨_, rfl⟩
  rw [← hL] at c3 hM
  have HL := Lib.hid hL
  have HX := Lib.hid hx
  have HY := Lib.hid hy
  have HB256 := Lib.hid hx.shp.b2
  clear hx hy hL
  go_enter Try.func20, Try.ntmps20
  go_wp2
  go_quiet (fail)
  go_wp2
  go_loopw [6, 7, 8, 10, 25] (fun _ _ _ _ i wr => ∃ j : Nat, j ≤ L ∧ i = .int .i64 j ∧ Hid ((M.take j).all (within1 B N) = true) ∧ Hid (Below w.heap.size w wr)) (fun _ _ _ _ i _ => L - (intOf i).toNat)
  case atStart => exact ⟨0, Nat.zero_le _, rfl, Lib.hid (by simp), Lib.hid (below_drewN (Below.refl _ _) _)⟩
  case round =>
    obtain ⟨j, hj, rfl, HA, HB⟩ := hrel
    by_cases hlt : j < L
    · have hjM : j < M.length := by rw [← HL.out]; exact hlt
      obtain ⟨g, cu, A6, c6, f3, f0, f1, f2, f4, fb, hcc6⟩ := copied_at2 HX.out hjM
      have HCC := Lib.hid hcc6
      clear hcc6
      rw [← HL.out, c3] at f3
      injection f3 with f3
      injection f3 with f3 _ f5
      subst f3 f5
      have HNX : Hid ((M.take (j + 1)).all (within1 B N) = ((M.take j).all (within1 B N) && within1 B N M[j])) := Lib.hid (by rw [List.take_succ_eq_append_getElem hjM, List.all_append]; simp)
      have HALL : Hid (within1 B N M[j] = false → withinB B M N = false) := Lib.hid fun h => by
        unfold withinB
        rw [List.all_eq_false]
        exact ⟨_, List.getElem_mem hjM, by simp [h]⟩
      obtain ⟨q, hq⟩ : ∃ q, q = M[j] := ⟨_, rfl⟩
      rw [← hq] at f0 f1 f4 fb HNX HALL
      have hgl := World.block_lt_of_cell? w _ f0
      have g0 := (HB.out.cell (p := ⟨g, j * 4, none⟩) hgl).trans f0
      have g1 := (HB.out.cell (p := ⟨g, j * 4 + 1, none⟩) hgl).trans f1
      have g2 := (HB.out.cell (p := ⟨g, j * 4 + 2, none⟩) hgl).trans f2
      have g3 := (HB.out.cell (p := ⟨g, j * 4 + 3, none⟩) hgl).trans f4
      have hbx := below_new4 wr (.cells #[.int .i64 q.seg, .int .i64 q.page, .slice A6 B c6, .bool q.dirty] 48)
      have HBX := Lib.hid (HB.out.trans (hbx.mono HB.out.size))
      have BXN := Lib.hid (Four.new wr (.int .i64 q.seg) (.int .i64 q.page) (.slice A6 B c6) (.bool q.dirty) 48)
      have HFB := Lib.hid fb
      obtain ⟨-, t0, t1, t2, -⟩ := BXN.out
      clear hbx fb f0 f1 f2 f4 hq hjM hgl
      have hP0 : Below w.heap.size w (wr.alloc (.cells #[.int .i64 q.seg, .int .i64 q.page, .slice A6 B c6, .bool q.dirty] 48)) ∧ (wr.alloc (.cells #[.int .i64 q.seg, .int .i64 q.page, .slice A6 B c6, .bool q.dirty] 48)).cell? ⟨wr.heap.size, 0, none⟩ = some (.int .i64 q.seg) ∧ (wr.alloc (.cells #[.int .i64 q.seg, .int .i64 q.page, .slice A6 B c6, .bool q.dirty] 48)).cell? ⟨wr.heap.size, 1, none⟩ = some (.int .i64 q.page) ∧ (wr.alloc (.cells #[.int .i64 q.seg, .int .i64 q.page, .slice A6 B c6, .bool q.dirty] 48)).cell? ⟨wr.heap.size, 2, none⟩ = some (.slice A6 B c6) ∧ wr.heap.size < (wr.alloc (.cells #[.int .i64 q.seg, .int .i64 q.page, .slice A6 B c6, .bool q.dirty] 48)).heap.size := ⟨HBX.out, t0, t1, t2, by simp⟩
      have HP0 := Lib.hid hP0
      clear hP0 t0 t1 t2
      cases hlk : lk N q.seg q.page with
      | none =>
        have cf := find_none (HY.out.below HBX.out) q.seg q.page (by omega) hlk
        have HF : Hid (withinB B M N = false) := Lib.hid (HALL.out (by unfold within1; rw [hlk]))
        clear hlk
        go_wp2_with (go_at_call 14; (with_reducible refine cf.mono ?_); rintro e w9 ⟨rfl, hb9⟩; have HB9 := Lib.hid (HBX.out.trans (hb9.mono HBX.out.size)); clear hb9)
        go_ret
        exact ⟨by rw [HF.out]; rfl, HB9.out⟩
      | some r =>
        have cf := find_some (HY.out.below HBX.out) q.seg q.page (by omega) (by rw [hlk]; rfl)
        have HLK := Lib.hid hlk
        obtain ⟨X, hX⟩ : ∃ X, X = full B q.raw := ⟨_, rfl⟩
        obtain ⟨Y, hY⟩ : ∃ Y, Y = full B r := ⟨_, rfl⟩
        have HXL : Hid (X.length = B) := Lib.hid (by rw [hX, full_length])
        have HYL : Hid (Y.length = B) := Lib.hid (by rw [hY, full_length])
        have HW1 : Hid (within1 B N q = (X.drop (cmn X Y)).all fun z => decide (z = 255)) := Lib.hid (by unfold within1; rw [hlk, hX, hY])
        have hB1 : 16 ≤ B := HX.out.shp.b1
        have hB2 : B ≤ 256 := HB256.out
        have hfb := HFB.out
        rw [← hX] at hfb
        obtain ⟨b6, o6, rfl, hl6, hc6⟩ := hfb.2 (by omega)
        have HC6 := Lib.hid hc6
        have HFX := Lib.hid hfb
        clear hfb hc6
        go_upto_block 2 with (first
          | (go_at_call 14; (with_reducible refine cf.mono ?_); rintro e w9 ⟨j9, rfl, hb9⟩; have hP9 := pgb_next HP0.out hb9; have HP9 := Lib.hid hP9; obtain ⟨-, t0, t1, -, -⟩ := hP9; have cr := refRead_any (HY.out.below HP9.out.1) q.seg q.page (by omega); clear hb9)
          | (go_at_call 16; (with_reducible refine cr.mono ?_); rintro e w10 ⟨A8, c8, rfl, hs8, hb10⟩; have HP10 := Lib.hid (pgb_next HP9.out hb10); have HS8 := Lib.hid hs8; clear hb10 hs8))
        clear cf cr t0 t1
        have hs8' := HS8.out
        rw [HLK.out, Option.getD_some, ← hY] at hs8'
        obtain ⟨b8, o8, rfl, hl8, hc8⟩ := hs8'.2 (by omega)
        have HC8 := Lib.hid hc8
        clear hs8' hc8 HP9 HS8 hX hY HFB
        go_cut [8, 25] from 25 to 76 (fun s8 s25 wc => ∃ m : Nat, m ≤ B ∧ s8 = .int .i64 m ∧ s25 = .int .i64 j ∧ Hid (cmn X Y = m) ∧ Hid (Below w10.heap.size w10 wc))
        case first =>
          go_wp2_with fail
          go_loopw [8] (fun i wr2 => ∃ m : Nat, m ≤ B ∧ i = .int .i64 m ∧ Hid (X.take m = Y.take m) ∧ Hid (Below w10.heap.size w10 wr2)) (fun i _ => B - (intOf i).toNat)
          case atStart => exact ⟨0, Nat.zero_le _, rfl, Lib.hid (by simp), Lib.hid (Below.refl _ _)⟩
          case round =>
            obtain ⟨m, hm, rfl, HE, HBI⟩ := hrel
            have hpn := pgb_next HP10.out HBI.out
            obtain ⟨-, -, -, d2, hlp⟩ := hpn
            by_cases hmB : m < B
            · have hmX : m < X.length := by rw [HXL.out]; exact hmB
              have hmY : m < Y.length := by rw [HYL.out]; exact hmB
              have hl6' : b6 < w10.heap.size := Nat.lt_of_lt_of_le hl6 HP10.out.1.size
              have e6 : wr.cell? ⟨b6, o6 + m, none⟩ = some (.int .u8 (X[m].toNat : Int)) := (HBI.out.cell (p := ⟨b6, o6 + m, none⟩) hl6').trans ((HP10.out.1.cell (p := ⟨b6, o6 + m, none⟩) hl6).trans (HC6.out m hmX))
              have e8 : wr.cell? ⟨b8, o8 + m, none⟩ = some (.int .u8 (Y[m].toNat : Int)) := (HBI.out.cell (p := ⟨b8, o8 + m, none⟩) hl8).trans (HC8.out m hmY)
              have hmd : decide ((m : Int) < B) = true := decide_eq_true (by omega)
              have HNE : Hid (X[m] ≠ Y[m] → cmn X Y = m) := Lib.hid fun h => cmn_is X Y m (by rw [HXL.out, HYL.out]) (by omega) HE.out (.inr ⟨hmX, hmY, h⟩)
              have HEQ : Hid (X[m] = Y[m] → X.take (m + 1) = Y.take (m + 1)) := Lib.hid fun h => by rw [List.take_succ_eq_append_getElem hmX, List.take_succ_eq_append_getElem hmY, HE.out, h]
              generalize X[m] = xm at *
              generalize Y[m] = ym at *
              clear hmX hmY
              by_cases hxy : xm = ym
              · have HQ := Lib.hid (HEQ.out hxy)
                have hq : ((xm.toNat : Int) == (ym.toNat : Int)) = true := by rw [hxy]; simp
                clear hxy HNE HEQ
                go_wp2
                go_quiet (fail)
                go_wp2
                go_roundw
                case rel => exact ⟨m + 1, by omega, by go_num, HQ, Lib.hid (below_drewN HBI.out _)⟩
                case measure => simp [intOf]; omega
              · have HQ := Lib.hid (HNE.out hxy)
                have hq : ((xm.toNat : Int) == (ym.toNat : Int)) = false := by
                  rw [beq_eq_false_iff_ne]
                  intro e
                  exact hxy (UInt8.toNat_inj.1 (by omega))
                clear hxy HNE HEQ
                go_wp2
                go_quiet (fail)
                go_wp2_with fail
                all_goals (go_meet; exact ⟨m, hm, rfl, rfl, HQ, Lib.hid (below_drewN HBI.out _)⟩)
            · obtain rfl : m = B := by omega
              have hmd : decide ((m : Int) < m) = false := by simp
              have HQ : Hid (cmn X Y = m) := Lib.hid (cmn_is X Y m (by rw [HXL.out, HYL.out]) (by rw [HXL.out]; exact Nat.le_refl _) HE.out (.inl HXL.out.symm))
              go_wp2
              go_quiet (fail)
              go_wp2_with fail
              all_goals (go_meet; exact ⟨m, hm, rfl, rfl, HQ, Lib.hid (below_drewN HBI.out _)⟩)
        case rest =>
          obtain ⟨m, hm, rfl, rfl, HCM, HBC⟩ := hcut
          have hpc := pgb_next HP10.out HBC.out
          obtain ⟨hbw, -, -, d2, hlp⟩ := hpc
          have HBW := Lib.hid hbw
          have hsl := slice_from0 (some ⟨b6, o6, none⟩) B c6 m hm
          have hcc : B ≤ c6 := HCC.out
          have hbk := ((HFX.out.below hbw).back hm hcc)
          change Bs _ _ (behind0 (some ⟨b6, o6, none⟩) c6 m) _ _ at hbk
          have HBK := Lib.hid hbk
          clear hbw hbk
          go_wp2
          generalize behind0 (some ⟨b6, o6, none⟩) c6 m = A9 at *
          go_loopw [10, 69] (fun _ i wr => ∃ t : Nat, t ≤ B - m ∧ i = .int .i64 t ∧ Hid (((X.drop m).take t).all (fun z => decide (z = 255)) = true) ∧ wr = wc) (fun _ i _ => (B - m) - (intOf i).toNat)
          case atStart => exact ⟨0, Nat.zero_le _, rfl, Lib.hid (by simp), rfl⟩
          case round =>
            obtain ⟨t, ht, rfl, HT, rfl⟩ := hrel
            by_cases hlt2 : t < B - m
            · obtain ⟨b9, o9, rfl, hl9, hc9⟩ := HBK.out.2 (by omega)
              have htX : t < (X.drop m).length := by rw [List.length_drop, HXL.out]; exact hlt2
              have e9 := hc9 t htX
              have HN2 : Hid (((X.drop m).take (t + 1)).all (fun z => decide (z = 255)) = (((X.drop m).take t).all (fun z => decide (z = 255)) && decide ((X.drop m)[t] = 255))) := Lib.hid (by rw [List.take_succ_eq_append_getElem htX, List.all_append]; simp)
              have HN3 : Hid ((X.drop m)[t] ≠ 255 → withinB B M N = false) := Lib.hid fun h => HALL.out (by
                rw [HW1.out, HCM.out, List.all_eq_false]
                exact ⟨_, List.getElem_mem htX, by simpa using h⟩)
              generalize (X.drop m)[t] = z at *
              clear hc9 htX
              by_cases hz : z = 255
              · have HQ : Hid (((X.drop m).take (t + 1)).all (fun z => decide (z = 255)) = true) := Lib.hid (by rw [HN2.out, HT.out, decide_eq_true hz]; rfl)
                subst hz
                clear HN2 HN3
                go_wp2
                go_roundw
                case rel => exact ⟨t + 1, by omega, by go_num, HQ, by first | rfl | trivial⟩
                case measure => simp [intOf]; omega
              · have HQ := Lib.hid (HN3.out hz)
                have hz2 : ((z.toNat : Int) != 255) = true := by
                  rw [bne_iff_ne]
                  intro e
                  exact hz (UInt8.toNat_inj.1 (by show z.toNat = 255; omega))
                clear HN2 HN3 hz
                go_wp2
                go_ret
                exact ⟨by rw [HQ.out]; rfl, HBW.out⟩
            · obtain rfl : t = B - m := by omega
              have HQ : Hid (within1 B N q = true) := Lib.hid (by
                have h := HT.out
                rw [List.take_of_length_le (by rw [List.length_drop, HXL.out]; exact Nat.le_refl _)] at h
                rw [HW1.out, HCM.out]
                exact h)
              go_wp2
              go_roundw
              case rel => exact ⟨j + 1, by omega, by go_num, Lib.hid (by rw [HNX.out, HA.out, HQ.out]; rfl), HBW⟩
              case measure => simp [intOf]; omega
    · obtain rfl : j = L := by omega
      have HT : Hid (withinB B M N = true) := Lib.hid (by have h := HA.out; rw [HL.out, List.take_length] at h; exact h)
      go_wp2
      go_ret
      exact ⟨by rw [HT.out]; rfl, HB.out⟩
end
end Go.Proofs.Ytgnncbbfbhipaaa
