/-
  The program's own Pad: a row of pages, each in memory of its own.
-/
import Derived.Test.YtndbjdnfibpicaaRMPage
import Derived.Test.YtndbjdnfibpicaaRMBytes
import Derived.Test.YtndbjdnfibpicaaRMCells
import Derived.Test.YtndbjdnfibpicaaRMFrame
namespace Go.Proofs.YtndbjdnfibpicaaR
open Go.ChangeShapes Go.WideShapes Go.ChangeAt Go.RowKit
set_option maxRecDepth 100000

theorem bs8_info : (Try.prog.info? 54).map (fun i => (i.zero, i.size, i.bytes)) = some (some (.slice none 0 0), 1, 24) := by kernel_rfl
theorem cut_from (A : Option Addr) (n c k : Nat) (h : k ≤ n) (w : World) :
    (Instr.slice 54 (.slice A n c) (some (.int .i64 (k : Int))) none none).run Try.prog w = .ok (.slice (behindN A c k) (n - k) (c - k)) w := by
  have h1 := run_slice_l (P := Try.prog) w 54 A n c (by kernel_rfl) .i64 (k : Int) (by omega) (by omega)
  have h2 : (sizeOf (Try.prog.elem 54)).run Try.prog w = .ok 1 w := by kernel_rfl
  rw [h1, h2]
  simp [sliced, Result.andThen, behindN]
/-- slices of s bytes each, in blocks of their own -/
def slicesV (G : List Nat) (s : Nat) : List Value := G.map fun g => .slice (some ⟨g, 0, none⟩) s s
/-- a row of bytes stays, while a row of slices grows -/
theorem Row.grown {w w' : World} {base g n : Nat} {L : List UInt8} {v : Value} {xs : List Value} (h : Row 5 w g L) (ho : w.ownsRow base 54 1 v n xs) (hg : w.grownBy w' v.ownBlock) : Row 5 w' g L := by
  refine (hg.block g h.lt ?_).trans h
  intro he
  rcases ho.2 with ⟨rfl, -⟩ | ⟨q, cap, cur, rfl, -, hq, -⟩
  · cases he
  · have e : g = q := by simpa [Value.ownBlock] using he
    subst e
    unfold Row at h
    rw [h] at hq
    injection hq with hq
    injection hq with _ ht
    cases ht
theorem own_belowV {w w' : World} {base size : Nat} {T : TypeId} {v : Value} {n : Nat} {xs : List Value} (h : w.ownsRow base T size v n xs) (hb : Below w.heap.size w w') : w'.ownsRow base T size v n xs :=
  h.kept (row := none) ⟨hb.os, hb.tape, hb.output, hb.size, fun k hk _ => hb.block k hk⟩ (Classical.em _)
theorem page_front (l : List UInt8) (s r m : Nat) (hm : m = Nat.min (l.length - r * s) s) : (Fm.page l s r).take m = (l.drop (r * s)).take m := by
  have hm' : m = min (l.length - r * s) s := hm
  apply List.ext_getElem
  · simp [Fm.page_length]; omega
  · intro i h1 h2
    simp [Fm.page_length] at h1 h2
    rw [List.getElem_take, List.getElem_take, Fm.page_get, List.getElem_drop, List.getD_eq_getElem?_getD, List.getElem?_eq_getElem (by omega), Option.getD_some]
theorem page_rest (l : List UInt8) (s r k : Nat) (hk : k < s) (hl : l.length ≤ r * s + k) : (Fm.page l s r).take (k + 1) = (Fm.page l s r).take k ++ [255] := by
  have hkl : k < (Fm.page l s r).length := by rw [Fm.page_length]; exact hk
  rw [List.take_succ_eq_append_getElem hkl, Fm.page_get, List.getD_eq_getElem?_getD, List.getElem?_eq_none hl, Option.getD_none]
theorem pad_none (A : Option Addr) (n c : Nat) (w : World) (size : Int) (hz : size < 1 ∨ 4096 < size) : Calls Try.prog 77 #[.slice A n c, .int .i64 size] w fun e w' =>
    ∃ A' c', e = .returned (.slice A' 0 c') ∧ Below w.heap.size w w' := by
  have f1 := nfits_any size 1 4096 w
  rw [decide_eq_false (by omega)] at f1
  go_enter Try.func77, Try.ntmps77
  go_wp2_with (go_at_call 43; (with_reducible refine f1.mono ?_); rintro e w' ⟨rfl, rfl⟩)
  go_ret
  exact ⟨none, 0, rfl, Below.refl _ _⟩
/-- a row of pages, each in a block of its own, all of them new -/
def PadsNew (base : Nat) (w : World) (A : Option Addr) (K s : Nat) (l : List UInt8) : Prop :=
  ∀ i, i < K → ∃ b off g, A = some ⟨b, off, none⟩ ∧ base ≤ b ∧ base ≤ g ∧ w.cell? ⟨b, off + i, none⟩ = some (.slice (some ⟨g, 0, none⟩) s s) ∧ Row 5 w g (Fm.page l s i)
set_option maxHeartbeats 2000000 in
theorem pad_new (A : Option Addr) (n c : Nat) (l : List UInt8) (B : Nat) (w : World) (s : Nat) (hs : Bs w B A n l) (hB : B ≤ w.heap.size) (hnc : n ≤ c) (hn : n ≤ 1000000) (h1 : 1 ≤ s) (h2 : s ≤ 4096) : Calls Try.prog 77 #[.slice A n c, .int .i64 (s : Int)] w fun e w' =>
    ∃ A' c', e = .returned (.slice A' ((n + s - 1) / s) c') ∧ PadsNew w.heap.size w' A' ((n + s - 1) / s) s l ∧ Below w.heap.size w w' := by
  have f1 := nfits_any (s : Int) 1 4096 w
  rw [decide_eq_true ⟨by omega, by omega⟩] at f1
  obtain ⟨i0, hi, hz, hsz, hby⟩ := info_parts bs8_info
  have HI := Lib.hid hi
  have HZI := Lib.hid hz
  have HSZ := Lib.hid hsz
  have HBY := Lib.hid hby
  have HBW := Lib.hid hB
  have HS := Lib.hid hs
  obtain ⟨K, hK⟩ : ∃ K, K = (n + s - 1) / s := ⟨_, rfl⟩
  rw [← hK]
  have HK1 : Hid (∀ r, r * s < n → r < K) := Lib.hid (by
    intro r hr
    rw [hK, Nat.lt_iff_add_one_le, Nat.le_div_iff_mul_le (by omega), Nat.succ_mul]
    omega)
  have HK2 : Hid (∀ r, n ≤ r * s → K ≤ r) := Lib.hid (by
    intro r hr
    rw [hK, ← Nat.lt_succ_iff, Nat.div_lt_iff_lt_mul (by omega), Nat.succ_mul]
    omega)
  clear hK
  have hmk := make_bytes s (by omega)
  obtain ⟨Z, hZ⟩ : ∃ Z, Z = List.replicate s (0 : UInt8) := ⟨_, rfl⟩
  rw [← hZ] at hmk
  have HZ : Hid (Z.length = s) := Lib.hid (by rw [hZ]; simp)
  clear hZ hi hz hsz hby hs hB
  go_enter Try.func77, Try.ntmps77
  go_wp2_with (go_at_call 43; (with_reducible refine f1.mono ?_); rintro e w' ⟨rfl, rfl⟩)
  go_loopw [5, 6, 7, 8] (fun out x _ _ wr => ∃ (G : List Nat) (a : Nat), G.length ≤ K ∧ x = .int .i64 (a : Int) ∧ Hid (a = G.length * s) ∧ a < n + s ∧ Hid (wr.ownsRow w.heap.size 54 1 out G.length (slicesV G s)) ∧ Hid (∀ i (h : i < G.length), Row 5 wr G[i] (Fm.page l s i) ∧ w.heap.size ≤ G[i]) ∧ Below w.heap.size w wr) (fun _ x _ _ _ => n + s - (intOf x).toNat)
  case atStart => exact ⟨[], 0, Nat.zero_le _, rfl, Lib.hid (by simp), by omega, Lib.hid (World.ownsRow_nil _ _ _ _), Lib.hid (by intro i h; cases h), Below.refl _ _⟩
  case round =>
    obtain ⟨G, a, hG, rfl, HA, hal, HO, HP, hbr⟩ := hrel
    obtain ⟨wo, hwo⟩ : ∃ wo, wo = wr := ⟨wr, rfl⟩
    subst hwo
    by_cases hlt : a < n
    · have hcut := cut_from A n c a (by omega)
      have HSr := Lib.hid ((HS.out.below (hbr.mono HBW.out)).back (k := a) (by omega) hnc)
      obtain ⟨A2, hA2⟩ : ∃ A2, A2 = behindN A c a := ⟨_, rfl⟩
      obtain ⟨m, hm⟩ : ∃ m, m = Nat.min (n - a) s := ⟨_, rfl⟩
      have hm' : m = min (n - a) s := hm
      obtain ⟨M, hM⟩ : ∃ M, M = (l.drop a).take m := ⟨_, rfl⟩
      have HSM : Hid (Bs wo B A2 m M) := Lib.hid (by rw [hM, hA2]; exact HSr.out.front (by omega))
      have HML : Hid (M.length = m) := Lib.hid HSM.out.1
      have HN : Hid ((vals M).length = Nat.min (n - a) s) := Lib.hid (by rw [vals_length, HML.out, hm])
      have HF : Hid (0 + (vals M).length ≤ (vals Z).length) := Lib.hid (by rw [vals_length, vals_length, HML.out, HZ.out]; omega)
      have HB1 := Lib.hid (HSM.out.alloc (Nat.le_trans HBW.out hbr.size) (.cells (vals Z).toArray 5))
      have HPM : Hid ((Fm.page l s G.length).take m = M) := Lib.hid (by rw [hM, HA.out]; exact page_front l s _ m (by rw [hm, HS.out.1, HA.out]))
      rw [← hA2] at hcut
      have HBR := Lib.hid hbr
      clear hA2 hM hm HSr
      go_wp2_with (refine wpList_copy_splice (o := ⟨some 25, _, _, _, _, _⟩) rfl (.tmp 21) (.tmp 24) 54 54 rfl 5 Try.underlying54 u8_one (some ⟨wo.heap.size, 0, none⟩) A2 s s (n - a) (c - a) rfl rfl wo.heap.size 0 (vals Z) 5 (Row.new wo _ Z) (vals M) HN.out (HB1.out.copies _) HF.out (vals_one M) wo.heap.size wo ((Below.refl _ _).alloc (Nat.le_refl _) _) (Nat.le_refl _) ?_; intro w2 HG hb2)
      rw [splice_vals] at HG
      have HR0 : Hid (Row 5 w2 wo.heap.size (M ++ Z.drop M.length)) := HG
      have HE8 : Hid (((vals M).length : Int) = (m : Int)) := Lib.hid (by rw [vals_length, HML.out])
      clear HG hcut HSM HN HF HB1 hmk
      go_loopw [8] (fun i wr2 => ∃ (k : Nat) (L : List UInt8), m ≤ k ∧ k ≤ s ∧ i = .int .i64 (k : Int) ∧ Hid (L.length = s) ∧ Hid (L.take k = (Fm.page l s G.length).take k) ∧ Hid (Row 5 wr2 wo.heap.size L) ∧ Below wo.heap.size wo wr2) (fun i _ => s - (intOf i).toNat)
      case atStart =>
        refine ⟨m, _, Nat.le_refl _, by omega, ?_, Lib.hid ?_, Lib.hid ?_, HR0, hb2⟩
        · rw [← HE8.out]
        · rw [List.length_append, List.length_drop, HML.out, HZ.out]; omega
        · rw [HPM.out, ← HML.out]; simp
      case round =>
        obtain ⟨k, L, hmk1, hks, rfl, HLL, HT, HR, hbx⟩ := hrel
        clear HR0
        by_cases hk : k < s
        · have hkl : k < L.length := by rw [HLL.out]; exact hk
          have hcell := HR.out.cell hkl
          have hfr := HR.out.frozen k
          have HR2 : Hid (Row 5 (wr.setCell ⟨wo.heap.size, k, none⟩ (.int .u8 255)) wo.heap.size (L.set k 255)) := Lib.hid (HR.out.put k 255)
          have HT2 : Hid ((L.set k 255).take (k + 1) = (Fm.page l s G.length).take (k + 1)) := Lib.hid (by
            rw [take_put hkl HT.out, page_rest l s _ k hk (by rw [← HA.out, HS.out.1]; omega)])
          have HL2 : Hid ((L.set k 255).length = s) := Lib.hid (by rw [List.length_set, HLL.out])
          clear HT HR HLL
          go_wp2
          go_roundw
          case rel => exact ⟨k + 1, _, by omega, by omega, by go_num, HL2, HT2, HR2, hbx.setCell (by exact Nat.le_refl _) _⟩
          case measure => simp [intOf]; omega
        · obtain rfl : k = s := by omega
          have HRP : Hid (Row 5 wr wo.heap.size (Fm.page l k G.length)) := Lib.hid (by
            have h := HT.out
            rw [List.take_of_length_le (by rw [HLL.out]; omega), List.take_of_length_le (by rw [Fm.page_length]; omega)] at h
            rw [← h]
            exact HR.out)
          have HOx := Lib.hid (own_belowV HO.out hbx)
          have HOa := Lib.hid (HOx.out.alloc (.cells #[.slice (some ⟨wo.heap.size, 0, none⟩) k k] 54))
          have HBx := Lib.hid (HBR.out.trans (hbx.mono HBR.out.size))
          have HGl : Hid (G.length < K) := Lib.hid (HK1.out _ (by rw [← HA.out]; exact hlt))
          have HRB := Lib.hid hbx
          clear HT HR HLL hbx hbr
          have HKn : K ≤ 1100000 := by
            by_cases hKn : K ≤ 1100000
            · exact hKn
            · have := HK2.out 1000000 (by have := Nat.mul_le_mul_left 1000000 h1; omega)
              omega
          have hGl := HGl.out
          go_wp2_with (at_builtin; refine wpList_append_vals (o := ⟨some 37, _, _, _, _, _⟩) rfl (.tmp 34) (.tmp 36) 121 rfl w.heap.size 54 i0 (.slice none 0 0) 24 Try.underlying121 HI.out HZI.out HSZ.out HBY.out rfl _ G.length (slicesV G k) rfl HOa.out (wr.heap.size + 1) (some ⟨wr.heap.size, 0, none⟩) 1 1 [.slice (some ⟨wo.heap.size, 0, none⟩) k k] rfl (Vs.new wr _ _ #[.slice (some ⟨wo.heap.size, 0, none⟩) k k]) (by intro u hu; simp at hu; rw [hu]; rfl) (by omega) (by omega) (by have := HBx.out.size; simp; omega) ?_; intro v4 w4 HO4 HG4)
          have HG5 : Hid ((wr.alloc (.cells #[.slice (some ⟨wo.heap.size, 0, none⟩) k k] 54)).grownBy w4 u5.ownBlock) := HG4
          have HLn : (G ++ [wo.heap.size]).length = G.length + 1 := by simp
          refine ⟨⟨G ++ [wo.heap.size], a + k, by rw [HLn]; exact hGl, by simp, Lib.hid (by rw [HLn, HA.out, Nat.succ_mul]), by omega, Lib.hid ?_, Lib.hid ?_, ?_⟩, ?_⟩
          · rw [HLn, show slicesV (G ++ [wo.heap.size]) k = slicesV G k ++ [.slice (some ⟨wo.heap.size, 0, none⟩) k k] by simp [slicesV]]
            exact HO4.out
          · intro i hi
            rw [HLn] at hi
            by_cases hiG : i < G.length
            · rw [List.getElem_append_left hiG]
              have hr := (HP.out i hiG).1
              refine ⟨?_, (HP.out i hiG).2⟩
              exact Row.grown ((hr.below HRB.out hr.lt).below ((Below.refl _ _).alloc (Nat.le_refl _) _) (hr.below HRB.out hr.lt).lt) HOa.out HG5.out
            · obtain rfl : i = G.length := by omega
              rw [List.getElem_append_right (Nat.le_refl _)]
              simp only [Nat.sub_self, List.getElem_cons_zero]
              refine ⟨?_, HBR.out.size⟩
              exact Row.grown (HRP.out.below ((Below.refl _ _).alloc (Nat.le_refl _) _) HRP.out.lt) HOa.out HG5.out
          · exact (HBx.out.alloc HBx.out.size _).grown HG5.out (by have := HBx.out.size; simp; omega) (fun q hq => (HOa.out.lt q hq).1)
          · simp [intOf]; omega
    · have hKG : K = G.length := by
        have := HK2.out G.length (by rw [← HA.out]; omega)
        omega
      obtain ⟨A5, c5, rfl, hv5, hc5⟩ := Vs.of_own HO.out
      have HBA : Hid (∀ ad : Addr, A5 = some ad → w.heap.size ≤ ad.block) := Lib.hid fun ad had => by
        subst had
        exact (HO.out.lt _ rfl).1
      have HV := Lib.hid hv5
      clear hv5 HO
      go_wp2
      go_ret
      rw [hKG]
      refine ⟨A5, c5, rfl, ?_, hbr⟩
      intro i hi
      obtain ⟨b, off, rfl, hb5, hc⟩ := HV.out.2 (by omega)
      have hbb := HBA.out _ rfl
      refine ⟨b, off, G[i], rfl, hbb, (HP.out i hi).2, ?_, (HP.out i hi).1⟩
      rw [hc i (by rw [HV.out.1]; exact hi)]
      simp [slicesV]
theorem pad_any (A : Option Addr) (n c : Nat) (l : List UInt8) (B : Nat) (w : World) (s : Nat) (hs : Bs w B A n l) (hB : B ≤ w.heap.size) (hnc : n ≤ c) (hn : n ≤ 1000000) (h1 : 1 ≤ s) (h2 : s ≤ 4096) : Calls Try.prog 77 #[.slice A n c, .int .i64 (s : Int)] w fun e w' =>
    ∃ A' c', e = .returned (.slice A' ((n + s - 1) / s) c') ∧ PadsIn w' A' ((n + s - 1) / s) s l ∧ Below w.heap.size w w' := by
  refine (pad_new A n c l B w s hs hB hnc hn h1 h2).mono ?_
  rintro e w' ⟨A', c', rfl, hp, hb⟩
  refine ⟨A', c', rfl, fun i hi => ?_, hb⟩
  obtain ⟨b, off, g, rfl, -, -, hc, hr⟩ := hp i hi
  refine ⟨b, off, rfl, some ⟨g, 0, none⟩, s, hc, ?_⟩
  have h3 := hr.bs hr.lt
  rw [Fm.page_length] at h3
  exact h3
theorem pads13 : Pads13 := fun A n c l B w s hs hB hnc hn h1 h2 => pad_any A n c l B w s hs hB hnc (by omega) h1 h2
theorem padsNone13 : PadsNone13 := fun A n c _ _ w size _ _ _ _ hz => pad_none A n c w size hz
end Go.Proofs.YtndbjdnfibpicaaR
