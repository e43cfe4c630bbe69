/-
  The law's Made: both devices behind some deeds.
-/
import Derived.Test.YtgnncbbfbhipaaaFlashFew
import Derived.Test.YtgnncbbfbhipaaaFlashRefCrash
namespace Go.Proofs.Ytgnncbbfbhipaaa
open Go.ChangeShapes Go.WideShapes Go.ChangeAt Go.RowKit Fl
set_option maxRecDepth 100000

/-- both devices, alike -/
structure Both (w : World) (v : Nat → Nat) (base S P B db mb xb : Nat) (M : List Pg) : Prop where
  dev : Dev w v 1 S P B db mb M
  rdv : Rdv w v 2 S P B xb M
  zero : ∀ i, i < base → v i = 0
  le : base ≤ w.heap.size
section
variable {w w' : World} {v v' : Nat → Nat} {base S P B db mb xb : Nat} {M M' : List Pg}
theorem Both.below (h : Both w v base S P B db mb xb M) (hb : Below w.heap.size w w') : Both w' v base S P B db mb xb M :=
  ⟨h.dev.below hb, h.rdv.below hb, h.zero, Nat.le_trans h.le hb.size⟩
theorem Stp.baseB {k : Nat} (h : Stp k w w' v v') (hz : ∀ i, i < base → v i = 0) (hl : base ≤ w.heap.size) (hk : k ≠ 0) : Below base w w' := h.toBelow hl fun i hi => by rw [hz i hi]; exact fun e => hk e.symm
end
/-- a deed in a block of its own -/
structure Bx (w : World) (v : Nat → Nat) (y : Nat) (d : Dd) (A : Option Addr) (c : Nat) : Prop where
  lt : y < w.heap.size
  zero : v y = 0
  c0 : w.cell? ⟨y, 0, none⟩ = some (.int .i64 d.kind)
  c1 : w.cell? ⟨y, 1, none⟩ = some (.int .i64 d.seg)
  c2 : w.cell? ⟨y, 2, none⟩ = some (.int .i64 d.page)
  c3 : w.cell? ⟨y, 3, none⟩ = some (.slice A d.data.length c)
  c4 : w.cell? ⟨y, 4, none⟩ = some (.int .u64 d.keep)
  c5 : w.cell? ⟨y, 5, none⟩ = some (.int .i64 d.torn)
  c6 : w.cell? ⟨y, 6, none⟩ = some (.int .i64 d.cut)
theorem Bx.new {w : World} {v : Nat → Nat} (d : Dd) (A : Option Addr) (c : Nat) (T : TypeId) (hf : Fr w v) : Bx (w.alloc (.cells #[.int .i64 d.kind, .int .i64 d.seg, .int .i64 d.page, .slice A d.data.length c, .int .u64 d.keep, .int .i64 d.torn, .int .i64 d.cut] T)) v w.heap.size d A c := by
  refine ⟨by simp, hf _ (Nat.le_refl _), ?_, ?_, ?_, ?_, ?_, ?_, ?_⟩ <;> simp
theorem Bx.stp {w w' : World} {v v' : Nat → Nat} {y k c : Nat} {d : Dd} {A : Option Addr} (h : Bx w v y d A c) (hs : Stp k w w' v v') (hk : k ≠ 0) : Bx w' v' y d A c := by
  have hn : v y ≠ k := by rw [h.zero]; exact fun e => hk e.symm
  exact ⟨Nat.lt_of_lt_of_le h.lt hs.size, by rw [hs.same _ h.lt]; exact h.zero, hs.cell h.c0 hn, hs.cell h.c1 hn, hs.cell h.c2 hn, hs.cell h.c3 hn, hs.cell h.c4 hn, hs.cell h.c5 hn, hs.cell h.c6 hn⟩
theorem dt_bs {w : World} {v : Nat → Nat} {A : Option Addr} {c : Nat} {l : List UInt8} (h : Dt w v (.slice A l.length c) l) : Bs w w.heap.size A l.length l := by
  obtain ⟨A', c', e, -, hb, -⟩ := h
  injection e with e1 _ _
  subst e1
  exact hb
/-- one device has moved, and the other one hasn't -/
theorem Both.d {w w' : World} {v v' : Nat → Nat} {base S P B db mb xb : Nat} {M : List Pg} (h : Both w v base S P B db mb xb M) (hs : Stp 1 w w' v v') : Rdv w' v' 2 S P B xb M ∧ (∀ i, i < base → v' i = 0) ∧ base ≤ w'.heap.size :=
  ⟨h.rdv.other hs (by omega) (by omega), hs.zero h.le h.zero, Nat.le_trans h.le hs.size⟩
/-- the deeds so far -/
def deeds (S P B : Nat) (L : List Dd) : List Pg := L.foldl (deed S P B) []
theorem deeds_snoc (S P B : Nat) (L : List Dd) (d : Dd) : deeds S P B (L ++ [d]) = deed S P B (deeds S P B L) d := by simp [deeds]
theorem deeds_length (S P B : Nat) (L : List Dd) : ∀ M : List Pg, (L.foldl (deed S P B) M).length ≤ M.length + L.length := by
  induction L with
  | nil => intro M; simp
  | cons d L ih =>
    intro M
    have h1 := ih (deed S P B M d)
    have h2 := deed_length S P B M d
    simp only [List.foldl_cons, List.length_cons]
    omega
/-- what Made gives -/
def MadeTo (S P B : Nat) (M : List Pg) (w : World) (e : Ending) (w' : World) : Prop :=
  ∃ db mb xb v, e = .returned (.tuple #[.pointer (some ⟨db, 0, none⟩), .pointer (some ⟨xb, 0, none⟩), .bool true]) ∧ Both w' v w.heap.size S P B db mb xb M ∧ Below w.heap.size w w'
/-- the document's device, just made -/
theorem rdv_born {w : World} {v : Nat → Nat} {S P B : Nat} (hs : Shp S P B) (hf : Fr w v) : ∃ v', Rdv (w.alloc (.cells #[.int .i64 S, .int .i64 P, .int .i64 B, nl] 42)) v' 2 S P B w.heap.size [] ∧ ∀ j, Stp j w (w.alloc (.cells #[.int .i64 S, .int .i64 P, .int .i64 B, nl] 42)) v v' := by
  have hst : ∀ j, Stp j w (w.alloc (.cells #[.int .i64 S, .int .i64 P, .int .i64 B, nl] 42)) v (paint v w.heap.size 2) := fun j => (Stp.below (below_new4 w _) hf).paint 2 (Nat.le_refl _) (by simp)
  refine ⟨_, ⟨hs, ⟨fun q hq => (nomatch hq), List.Pairwise.nil⟩, (hst 1).fresh, paint_same _ _ _, ⟨nl, [], heap_alloc_new w _, rfl, World.ownsRow_nil _ _ _ _, fun g hg => (nomatch hg), fun q hq => (nomatch hq)⟩⟩, hst⟩
section
variable {S P B : Nat} {w : World}
set_option maxHeartbeats 8000000 in
set_option maxRecDepth 100000 in
theorem made_any (hs : Shp S P B) (A : Option Addr) (n c : Nat) (L : List Dd) (h : Ds w w.heap.size A n L) (hfew : fewB L = true) (hwf : ∀ d ∈ L, d.Wf) :
    Calls Try.prog 9 #[.agg #[.int .i64 S, .int .i64 P, .int .i64 B], .slice A n c] w (MadeTo S P B (deeds S P B L) w) := by
  obtain ⟨hf3, hf60⟩ := fewB_all hfew
  have HL : Hid (L.length = n) := Lib.hid h.1
  have hn60 : n ≤ 60 := by rw [← HL.out]; exact hf60
  have HS := Lib.hid h
  have HF3 := Lib.hid hf3
  have HWF := Lib.hid hwf
  have HSH := Lib.hid hs
  have hb0 := below_new4 w (.cells #[.int .i64 S, .int .i64 P, .int .i64 B] 23)
  have t3 := Three.new w (.int .i64 S) (.int .i64 P) (.int .i64 B) 23
  have cn := new_yes (k := 1) hs (zero_fr (w.alloc (.cells #[.int .i64 S, .int .i64 P, .int .i64 B] 23)))
  have HB0 := Lib.hid hb0
  clear h hf3 hf60 hwf hs
  go_enter Try.func9, Try.ntmps9
  go_wp2_with (go_at_call 26; (with_reducible refine cn.mono ?_); rintro e w1 ⟨db, mb, v1, rfl, h1, h2, hD1, hS1⟩; obtain ⟨-, s0, s1, s2, -⟩ := t3.below ((hS1 1).toBelow (Nat.le_refl _) (fun i _ => by show (0 : Nat) ≠ 1; omega)))
  have hF1 := hD1.fr
  obtain ⟨v2, hR2, hS2⟩ := rdv_born (w := w1) HSH.out hF1
  have HBO : Hid (Both (w1.alloc (.cells #[.int .i64 S, .int .i64 P, .int .i64 B, nl] 42)) v2 w.heap.size S P B db mb w1.heap.size []) := Lib.hid
    ⟨hD1.other (hS2 2) (by omega) (by omega), hR2, (hS2 1).zero (Nat.le_trans hb0.size (hS1 1).size) ((hS1 1).zero hb0.size (fun _ _ => rfl)), Nat.le_trans hb0.size (Nat.le_trans (hS1 1).size (hS2 1).size)⟩
  have HBW : Hid (Below w.heap.size w (w1.alloc (.cells #[.int .i64 S, .int .i64 P, .int .i64 B, nl] 42))) := Lib.hid
    (HB0.out.trans (((hS1 1).toBelow hb0.size (fun i _ => by show (0 : Nat) ≠ 1; omega)).trans ((below_new4 w1 _).mono (Nat.le_trans hb0.size (hS1 1).size))))
  clear cn hD1 hS1 hF1 hR2 hS2 hb0 t3 h1 h2 s0 s1 s2
  generalize w1.alloc (.cells #[.int .i64 S, .int .i64 P, .int .i64 B, nl] 42) = w2 at *
  generalize w1.heap.size = xb at *
  go_loopw [11, 12, 25] (fun _ _ i wr => ∃ (j : Nat) (v : Nat → Nat), j ≤ n ∧ i = .int .i64 j ∧ Hid (Both wr v w.heap.size S P B db mb xb (deeds S P B (L.take j))) ∧ Hid (Below w.heap.size w wr)) (fun _ _ i _ => n - (intOf i).toNat)
  case atStart => exact ⟨0, v2, Nat.zero_le _, rfl, by simpa [deeds] using HBO, HBW⟩
  case round =>
    obtain ⟨j, v, hj, rfl, HBB, HB⟩ := hrel
    by_cases hlt : j < n
    · obtain ⟨b, off, rfl, hbB, hc⟩ := (HS.out.below HB.out).2 (by omega)
      have hjL : j < L.length := by rw [HL.out]; exact hlt
      have hnx : deeds S P B (L.take (j + 1)) = deed S P B (deeds S P B (L.take j)) L[j] := by rw [List.take_succ_eq_append_getElem hjL, deeds_snoc]
      have hml : (deeds S P B (L.take j)).length ≤ 60 := by
        have := deeds_length S P B (L.take j) []
        rw [List.length_take] at this
        unfold deeds
        simp only [List.length_nil] at this
        omega
      have hda := hc j hjL
      have hwf := HWF.out _ (List.getElem_mem hjL)
      obtain ⟨d, hd⟩ : ∃ d, d = L[j] := ⟨_, rfl⟩
      rw [← hd] at hnx hda hwf
      have HNX := Lib.hid hnx
      have HW := Lib.hid hwf
      generalize deeds S P B (L.take j) = M at *
      obtain ⟨d0, d1, d2, ⟨A3, c3, d3, hc3, hbs3, hno3⟩, d4, d5, d6⟩ := hda
      have hfr := HBB.out.dev.fr
      have hbx := below_new4 wr (.cells #[.int .i64 d.kind, .int .i64 d.seg, .int .i64 d.page, .slice A3 d.data.length c3, .int .u64 d.keep, .int .i64 d.torn, .int .i64 d.cut] 65)
      have BX := Lib.hid (Bx.new d A3 c3 65 hfr)
      have BO := Lib.hid (HBB.out.below hbx)
      have HB2 := Lib.hid (HB.out.trans (hbx.mono HBB.out.le))
      have HSL : Hid (Sl wr (.slice A3 d.data.length c3) d.data) := Lib.hid ⟨A3, c3, rfl, hc3, hbs3.mono HBB.out.le, hno3⟩
      have HDT : Hid (Dt wr v (.slice A3 d.data.length c3) d.data) := Lib.hid ⟨A3, c3, rfl, hc3, hbs3.mono HBB.out.le, hno3, fun h0 a ha => by
        obtain ⟨b9, off9, e9, hlt9, -⟩ := hbs3.2 h0
        rw [ha] at e9
        injection e9 with e9
        rw [e9]
        exact HBB.out.zero _ hlt9⟩
      clear hc hd hnx hwf hbx hfr hbs3 hc3 hno3
      by_cases hk1 : d.kind = 1
      · have hke : (d.kind == 1) = true := by simpa using hk1
        have HDE : Hid (deed S P B M d = sync M) := Lib.hid (by unfold deed; rw [if_pos hk1])
        have cy := sync_any BO.out.dev (by omega)
        clear hk1
        go_wp2_with (first
          | (go_at_call 27; (with_reducible refine cy.mono ?_); rintro e w3 ⟨rfl, hD3, hS3⟩; obtain ⟨hR3, hz3, hl3⟩ := BO.out.d hS3; have cx := refSync_any hR3 (by omega) (by omega); have HD3 := Lib.hid hD3; have HS3 := Lib.hid hS3; have HZ3 := Lib.hid (And.intro hz3 hl3); clear cy hD3 hS3 hR3 hz3 hl3)
          | (go_at_call 28; (with_reducible refine cx.mono ?_); rintro e w4 ⟨rfl, hR4, hS4⟩; have HS4 := Lib.hid hS4; have HR4 := Lib.hid hR4; clear cx hR4 hS4))
        go_roundw
        case rel =>
          refine ⟨j + 1, v, by omega, by go_num, Lib.hid ?_, Lib.hid ?_⟩
          · rw [HNX.out, HDE.out]
            exact ⟨HD3.out.other HS4.out (by omega) (by omega), HR4.out, HS4.out.zero HZ3.out.2 HZ3.out.1, Nat.le_trans HZ3.out.2 HS4.out.size⟩
          · exact (HB2.out.trans (HS3.out.baseB BO.out.zero BO.out.le (by omega))).trans (HS4.out.baseB HZ3.out.1 HZ3.out.2 (by omega))
        case measure => simp [intOf]; omega
      have hke1 : (d.kind == 1) = false := by simpa using hk1
      by_cases hk2 : d.kind = 2
      · have hke : (d.kind == 2) = true := by simpa using hk2
        by_cases hin : 0 ≤ d.seg ∧ d.seg < S
        · have HDE : Hid (deed S P B M d = erase d.seg M) := Lib.hid (by unfold deed; rw [if_neg hk1, if_pos hk2, if_pos hin])
          have ce := erase_in BO.out.dev (by omega) d.seg HW.out.seg hin (by omega)
          have hP1 := HSH.out.p1
          have HINH : Hid (0 ≤ d.seg ∧ d.seg < S ∧ (0 : Int) ≤ 0 ∧ (0 : Int) < P) := Lib.hid ⟨hin.1, hin.2, by omega, by omega⟩
          clear hk1 hk2 hin
          go_wp2_with (first
            | (go_at_call 29; (with_reducible refine ce.mono ?_); rintro e w3 ⟨rfl, hD3, hS3⟩; obtain ⟨hR3, hz3, hl3⟩ := BO.out.d hS3; have ch := has_any hR3 d.seg 0; rw [decide_eq_true HINH.out] at ch; have cx := refErase_any hR3 (by omega) d.seg (by omega); have k1 := (BX.out.stp hS3 (by omega)).c1; have HD3 := Lib.hid hD3; have HS3 := Lib.hid hS3; have HZ3 := Lib.hid (And.intro hz3 hl3); clear ce hD3 hS3 hR3 hz3 hl3)
            | (go_at_call 30; (with_reducible refine ch.mono ?_); rintro e w4 ⟨rfl, rfl⟩; clear ch)
            | (go_at_call 31; (with_reducible refine cx.mono ?_); rintro e w5 ⟨rfl, v5, hR5, hS5⟩; have HS5 := Lib.hid hS5; have HR5 := Lib.hid hR5; clear cx hR5 hS5))
          go_roundw
          case rel =>
            refine ⟨j + 1, v5, by omega, by go_num, Lib.hid ?_, Lib.hid ?_⟩
            · rw [HNX.out, HDE.out]
              exact ⟨HD3.out.other HS5.out (by omega) (by omega), HR5.out, HS5.out.zero HZ3.out.2 HZ3.out.1, Nat.le_trans HZ3.out.2 HS5.out.size⟩
            · exact (HB2.out.trans (HS3.out.baseB BO.out.zero BO.out.le (by omega))).trans (HS5.out.baseB HZ3.out.1 HZ3.out.2 (by omega))
          case measure => simp [intOf]; omega
        · have HDE : Hid (deed S P B M d = M) := Lib.hid (by unfold deed; rw [if_neg hk1, if_pos hk2, if_neg hin])
          have ce := erase_out BO.out.dev d.seg hin
          have HINH : Hid (¬ (0 ≤ d.seg ∧ d.seg < S ∧ (0 : Int) ≤ 0 ∧ (0 : Int) < P)) := Lib.hid fun h => hin ⟨h.1, h.2.1⟩
          clear hk1 hk2 hin
          go_wp2_with (first
            | (go_at_call 29; (with_reducible refine ce.mono ?_); rintro e w3 ⟨rfl, hb3⟩; have BO3 := Lib.hid (BO.out.below hb3); have ch := has_any BO3.out.rdv d.seg 0; rw [decide_eq_false HINH.out] at ch; have k1 := (BX.out.stp (Stp.below (k := 1) hb3 BO.out.dev.fr) (by omega)).c1; have HB3 := Lib.hid (HB2.out.trans (hb3.mono BO.out.le)); clear ce hb3)
            | (go_at_call 30; (with_reducible refine ch.mono ?_); rintro e w4 ⟨rfl, rfl⟩; clear ch))
          go_roundw
          case rel => exact ⟨j + 1, v, by omega, by go_num, by rw [HNX.out, HDE.out]; exact BO3, HB3⟩
          case measure => simp [intOf]; omega
      have hke2 : (d.kind == 2) = false := by simpa using hk2
      by_cases hk3 : d.kind = 3
      · have hke : (d.kind == 3) = true := by simpa using hk3
        have HDE : Hid (deed S P B M d = crash (keep B d.keep d.torn d.cut) 0 M) := Lib.hid (by unfold deed; rw [if_neg hk1, if_neg hk2, if_pos hk3])
        have cc := crash_any BO.out.dev (by omega) d.keep d.torn d.cut HW.out.keep (by omega)
        clear hk1 hk2 hk3
        go_wp2_with (first
          | (go_at_call 32; (with_reducible refine cc.mono ?_); rintro e w3 ⟨rfl, hD3, hS3⟩; obtain ⟨hR3, hz3, hl3⟩ := BO.out.d hS3; have cx := refCrash_any hR3 (by omega) d.keep d.torn d.cut HW.out.keep (by omega); have bx3 := BX.out.stp hS3 (by omega); have k4 := bx3.c4; have k5 := bx3.c5; have k6 := bx3.c6; have HD3 := Lib.hid hD3; have HS3 := Lib.hid hS3; have HZ3 := Lib.hid (And.intro hz3 hl3); clear cc hD3 hS3 hR3 hz3 hl3 bx3)
          | (go_at_call 12; (with_reducible refine cx.mono ?_); rintro e w5 ⟨rfl, v5, hR5, hS5⟩; have HS5 := Lib.hid hS5; have HR5 := Lib.hid hR5; clear cx hR5 hS5))
        go_roundw
        case rel =>
          refine ⟨j + 1, v5, by omega, by go_num, Lib.hid ?_, Lib.hid ?_⟩
          · rw [HNX.out, HDE.out]
            exact ⟨HD3.out.other HS5.out (by omega) (by omega), HR5.out, HS5.out.zero HZ3.out.2 HZ3.out.1, Nat.le_trans HZ3.out.2 HS5.out.size⟩
          · exact (HB2.out.trans (HS3.out.baseB BO.out.zero BO.out.le (by omega))).trans (HS5.out.baseB HZ3.out.1 HZ3.out.2 (by omega))
        case measure => simp [intOf]; omega
      have hke3 : (d.kind == 3) = false := by simpa using hk3
      have HDE : Hid (deed S P B M d = wput S P B M d.seg d.page d.data) := Lib.hid (by unfold deed; rw [if_neg hk1, if_neg hk2, if_neg hk3])
      have hbd : Below wr.heap.size wr (wr.alloc (.cells #[.int .i64 d.kind, .int .i64 d.seg, .int .i64 d.page, .slice A3 d.data.length c3, .int .u64 d.keep, .int .i64 d.torn, .int .i64 d.cut] 65)).drew := (below_new4 wr _).drew
      have HBD := Lib.hid hbd
      have BOD := Lib.hid (HBB.out.below hbd)
      have hbe : Below (wr.alloc (.cells #[.int .i64 d.kind, .int .i64 d.seg, .int .i64 d.page, .slice A3 d.data.length c3, .int .u64 d.keep, .int .i64 d.torn, .int .i64 d.cut] 65)).heap.size (wr.alloc (.cells #[.int .i64 d.kind, .int .i64 d.seg, .int .i64 d.page, .slice A3 d.data.length c3, .int .u64 d.keep, .int .i64 d.torn, .int .i64 d.cut] 65)) (wr.alloc (.cells #[.int .i64 d.kind, .int .i64 d.seg, .int .i64 d.page, .slice A3 d.data.length c3, .int .u64 d.keep, .int .i64 d.torn, .int .i64 d.cut] 65)).drew := (Below.refl _ _).drew
      have BXD := Lib.hid (BX.out.stp (Stp.below (k := 1) hbe BO.out.dev.fr) (by omega))
      have HDTD := Lib.hid (HDT.out.below hbd)
      have cw := write_all BOD.out.dev (by omega) d.seg d.page HW.out.seg HW.out.page A3 _ c3 d.data HDTD.out.sl (by omega)
      have HP0 : Hid ((wr.alloc (.cells #[.int .i64 d.kind, .int .i64 d.seg, .int .i64 d.page, .slice A3 d.data.length c3, .int .u64 d.keep, .int .i64 d.torn, .int .i64 d.cut] 65)).drew.cell? ⟨wr.heap.size, 1, none⟩ = some (.int .i64 d.seg) ∧ (wr.alloc (.cells #[.int .i64 d.kind, .int .i64 d.seg, .int .i64 d.page, .slice A3 d.data.length c3, .int .u64 d.keep, .int .i64 d.torn, .int .i64 d.cut] 65)).drew.cell? ⟨wr.heap.size, 2, none⟩ = some (.int .i64 d.page) ∧ (wr.alloc (.cells #[.int .i64 d.kind, .int .i64 d.seg, .int .i64 d.page, .slice A3 d.data.length c3, .int .u64 d.keep, .int .i64 d.torn, .int .i64 d.cut] 65)).drew.cell? ⟨wr.heap.size, 3, none⟩ = some (.slice A3 d.data.length c3)) := Lib.hid ⟨BXD.out.c1, BXD.out.c2, BXD.out.c3⟩
      obtain ⟨wc, hwc⟩ : ∃ wc, wc = wcode S P B M d.seg d.page d.data.length := ⟨_, rfl⟩
      rw [← hwc] at cw
      have HWC := Lib.hid hwc
      have hne : (wc != wc) = false := by simp
      clear hbd hbe hk1 hk2 hk3 hwc
      go_wp2
      go_region_held3 (fun W => W.cell? ⟨wr.heap.size, 1, none⟩ = some (.int .i64 d.seg) ∧ W.cell? ⟨wr.heap.size, 2, none⟩ = some (.int .i64 d.page) ∧ W.cell? ⟨wr.heap.size, 3, none⟩ = some (.slice A3 d.data.length c3))
        (first | exact HP0.out | exact HP1.out | exact HP2.out)
        ((first
          | (go_at_call 33; (with_reducible refine cw.mono ?_); rintro e w3 ⟨rfl, v3, hD3, hS3⟩; obtain ⟨hR3, hz3, hl3⟩ := BOD.out.d hS3; have hdt3 := HDTD.out.stp hS3 (by omega); have cx := refWrite_all hR3 (by omega) d.seg d.page A3 _ c3 d.data (dt_bs hdt3) (by omega); rw [← HWC.out] at cx; have BX3 := Lib.hid (BXD.out.stp hS3 (by omega)); have HP1 := Lib.hid (And.intro BX3.out.c1 (And.intro BX3.out.c2 BX3.out.c3)); have HD3 := Lib.hid hD3; have HS3 := Lib.hid hS3; have HZ3 := Lib.hid (And.intro hz3 hl3); clear hD3 hS3 hR3 hz3 hl3 hdt3)
          | (go_at_call 34; (with_reducible refine cx.mono ?_); rintro e w5 ⟨rfl, v5, hR5, hS5⟩; have BX5 := Lib.hid (BX3.out.stp hS5 (by omega)); have HP2 := Lib.hid (And.intro BX5.out.c1 (And.intro BX5.out.c2 BX5.out.c3)); have HS5 := Lib.hid hS5; have HR5 := Lib.hid hR5; clear hR5 hS5)))
      all_goals
        go_wp2
        go_roundw
        case rel =>
          refine ⟨j + 1, v5, by omega, by go_num, Lib.hid ?_, Lib.hid ?_⟩
          · rw [HNX.out, HDE.out]
            exact ⟨HD3.out.other HS5.out (by omega) (by omega), HR5.out, HS5.out.zero HZ3.out.2 HZ3.out.1, Nat.le_trans HZ3.out.2 HS5.out.size⟩
          · exact ((HB.out.trans (HBD.out.mono HBB.out.le)).trans (HS3.out.baseB BOD.out.zero BOD.out.le (by omega))).trans (HS5.out.baseB HZ3.out.1 HZ3.out.2 (by omega))
        case measure => simp [intOf]; omega
    · obtain rfl : j = n := by omega
      have HTK : Hid (L.take j = L) := Lib.hid (List.take_of_length_le (by rw [HL.out]; exact Nat.le_refl _))
      go_wp2
      go_ret3
      have hb := HBB.out
      rw [HTK.out] at hb
      exact ⟨db, mb, xb, v, rfl, hb, HB.out⟩
end
end Go.Proofs.Ytgnncbbfbhipaaa
