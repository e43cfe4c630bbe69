/-
  The law's Made: both logs behind some deeds.
-/
import Derived.Test.YtndbjdnfibpicaaRLogDeeds
import Derived.Test.YtndbjdnfibpicaaRLogAppend
import Derived.Test.YtndbjdnfibpicaaRLogNew
import Derived.Test.YtndbjdnfibpicaaRRefPut
namespace Go.Proofs.YtndbjdnfibpicaaR
open Go.ChangeShapes Go.WideShapes Go.ChangeAt Go.RowKit Fl Lo
set_option maxRecDepth 100000
set_option linter.unusedVariables false

/-- both logs, alike -/
structure Bol (w : World) (v : Nat → Nat) (base S P B lb db mb gb xb : Nat) (g : Lg) : Prop where
  plg : Plg w v S P B lb db mb g
  rlg : Rlg w v S P B gb xb g
  zero : ∀ i, i < base → v i = 0
  le : base ≤ w.heap.size
theorem nkp0 : ¬ Kp 0 := by unfold Kp; omega
theorem nkr0 : ¬ Kr 0 := by unfold Kr; omega
section
variable {w w' : World} {v v' : Nat → Nat} {base S P B lb db mb gb xb : Nat} {g g' : Lg}
theorem Bol.below (h : Bol w v base S P B lb db mb gb xb g) (hb : Below w.heap.size w w') : Bol w' v base S P B lb db mb gb xb g :=
  ⟨h.plg.below hb, h.rlg.below hb, h.zero, Nat.le_trans h.le hb.size⟩
/-- one of them has moved -/
theorem Bol.p (h : Bol w v base S P B lb db mb gb xb g) (hm : Ms Kp w v w' v') : Rlg w' v' S P B gb xb g ∧ (∀ i, i < base → v' i = 0) ∧ base ≤ w'.heap.size ∧ Below base w w' :=
  ⟨h.rlg.ms hm (by unfold Kp; omega) (by unfold Kp; omega) nkp0, hm.zero h.le h.zero, Nat.le_trans h.le hm.size, hm.belowB h.le h.zero nkp0⟩
end
/-- a deed in a block of its own -/
structure Lx (w : World) (v : Nat → Nat) (y : Nat) (d : Ld) (A : Option Addr) (c : Nat) : Prop where
  lt : y < w.heap.size
  zero : v y = 0
  c0 : w.cell? ⟨y, 0, none⟩ = some (.int .i64 d.kind)
  c1 : w.cell? ⟨y, 1, none⟩ = some (.int .u8 (d.what.toNat : Int))
  c2 : w.cell? ⟨y, 2, none⟩ = some (.slice A d.data.length c)
  c3 : w.cell? ⟨y, 3, none⟩ = some (.int .i64 d.seg)
theorem Lx.new {w : World} {v : Nat → Nat} (d : Ld) (A : Option Addr) (c : Nat) (T : TypeId) (hf : Fr w v) : Lx (w.alloc (.cells #[.int .i64 d.kind, .int .u8 (d.what.toNat : Int), .slice A d.data.length c, .int .i64 d.seg] T)) v w.heap.size d A c := by
  refine ⟨by simp, hf _ (Nat.le_refl _), ?_, ?_, ?_, ?_⟩ <;> simp
section
variable {w w' : World} {v v' : Nat → Nat} {y c : Nat} {d : Ld} {A : Option Addr} {K : Nat → Prop}
theorem Lx.ms (h : Lx w v y d A c) (hm : Ms K w v w' v') (h0 : ¬ K 0) : Lx w' v' y d A c := by
  have hn : ¬ K (v y) := by rw [h.zero]; exact h0
  exact ⟨Nat.lt_of_lt_of_le h.lt hm.size, by rw [hm.same h.lt]; exact h.zero, hm.cell h.c0 hn, hm.cell h.c1 hn, hm.cell h.c2 hn, hm.cell h.c3 hn⟩
theorem Lx.below (h : Lx w v y d A c) (hb : Below w.heap.size w w') : Lx w' v y d A c :=
  ⟨Nat.lt_of_lt_of_le h.lt hb.size, h.zero, (hb.cell (p := ⟨y, 0, none⟩) h.lt).trans h.c0, (hb.cell (p := ⟨y, 1, none⟩) h.lt).trans h.c1, (hb.cell (p := ⟨y, 2, none⟩) h.lt).trans h.c2, (hb.cell (p := ⟨y, 3, none⟩) h.lt).trans h.c3⟩
end
theorem Dt.belowD {w w' : World} {v : Nat → Nat} {x : Value} {l : List UInt8} (h : Dt w v x l) (hf : Fr w v) (hb : Below w.heap.size w w') : Dt w' v x l := h.stp (k := 9) (Stp.below hb hf) (by omega)
/-- the deeds so far -/
def ldeeds (S P B : Nat) (L : List Ld) : Lg := L.foldl (ldeed S P B) (g0 S)
theorem ldeeds_snoc (S P B : Nat) (L : List Ld) (d : Ld) : ldeeds S P B (L ++ [d]) = ldeed S P B (ldeeds S P B L) d := by simp [ldeeds]
theorem ldeeds_good {S P B : Nat} (hB : 16 ≤ B) (L : List Ld) (h : ∀ d ∈ L, d.data.length ≤ 400) : Lgood L.length (ldeeds S P B L) := by
  have key : ∀ (L : List Ld) (j : Nat) (g : Lg), (∀ d ∈ L, d.data.length ≤ 400) → Lgood j g → Lgood (j + L.length) (L.foldl (ldeed S P B) g) := by
    intro L
    induction L with
    | nil => intro j g _ hg; exact hg
    | cons d L ih =>
      intro j g hd hg
      have := ih (j + 1) (ldeed S P B g d) (fun x hx => hd x (List.mem_cons_of_mem _ hx)) (ldeed_good hg hB (hd d (List.mem_cons_self ..)))
      rw [List.length_cons, List.foldl_cons, show j + (L.length + 1) = j + 1 + L.length by omega]
      exact this
  have := key L 0 (g0 S) h ⟨by show ([] : List Pg).length ≤ _; simp, Nat.le_refl _, Nat.le_refl _⟩
  rwa [Nat.zero_add] at this
/-- what Made gives -/
def LMadeTo (S P B : Nat) (g : Lg) (w : World) (e : Ending) (w' : World) : Prop :=
  ∃ lb db mb gb xb v, e = .returned (.tuple #[.pointer (some ⟨lb, 0, none⟩), .pointer (some ⟨gb, 0, none⟩), .bool true]) ∧ Bol w' v w.heap.size S P B lb db mb gb xb g ∧ Below w.heap.size w w'
theorem RefPutTo.at0 {S P B gb xb need : Nat} {kind : UInt8} {l : List UInt8} {g : Lg} {w w' : World} {v : Nat → Nat} {e : Ending} (h : RefPutTo S P B gb xb kind l need g w v e w') {a b x : Int} (ha : a = (putAt P B kind l need g).1) (hb : b = (putAt P B kind l need g).2) (hx : x = perr P B kind l need g) :
    e = .returned (.tuple #[.agg #[.int .i64 a, .int .i64 b], .int .i64 x]) ∧ ∃ v', Rlg w' v' S P B gb xb (putG P B kind l need g) ∧ Ms Kr w v w' v' := by
  subst ha hb hx
  exact h
theorem refPut_at {S P B gb xb need n c : Nat} {w : World} {v : Nat → Nat} {g : Lg} {kind : UInt8} {A : Option Addr} {l : List UInt8} (needI : Int) (hI : (need : Int) = needI) (h : Rlg w v S P B gb xb g) (hd : Dt w v (.slice A n c) l) (hn : n ≤ 4096) (hneed : need ≤ 1000) (hx1 : 1 ≤ g.next) (hx : g.next < 900000) (hM : g.M.length ≤ 80000) (hneed1 : 1 ≤ need) :
    Calls Try.prog 26 #[.pointer (some ⟨gb, 0, none⟩), .int .u8 (kind.toNat : Int), .slice A n c, .int .i64 needI] w (RefPutTo S P B gb xb kind l need g w v) := by
  subst hI
  exact refPut_any h hd hn hneed hx1 hx hM hneed1
theorem zero_frL (w : World) : Fr w (fun _ => 0) := fun _ _ => rfl
section
variable {S P B : Nat} {w : World}
set_option maxHeartbeats 16000000 in
theorem lmade_any (hs : Shp S P B) (h4 : 4 ≤ S) (A : Option Addr) (n c : Nat) (L : List Ld) (h : Lds w w.heap.size A n L) (hfew : fewL L = true) (hwf : ∀ d ∈ L, d.Wf) :
    Calls Try.prog 9 #[.agg #[.int .i64 S, .int .i64 P, .int .i64 B], .slice A n c] w (LMadeTo S P B (ldeeds S P B L) w) := by
  obtain ⟨hf4, hf60⟩ := fewL_all hfew
  have HL : Hid (L.length = n) := Lib.hid h.1
  have hn60 : n ≤ 60 := by rw [← HL.out]; exact hf60
  have HS := Lib.hid h
  have HF4 := Lib.hid hf4
  have HWF := Lib.hid hwf
  have HSH := Lib.hid hs
  have HB16 : Hid (16 ≤ B) := Lib.hid hs.b1
  have hb0 := below_new4 w (.cells #[.int .i64 S, .int .i64 P, .int .i64 B] 23)
  have t3 := Three.new w (.int .i64 S) (.int .i64 P) (.int .i64 B) 23
  have cn := new_yes (k := 1) hs (zero_frL (w.alloc (.cells #[.int .i64 S, .int .i64 P, .int .i64 B] 23)))
  have HB0 := Lib.hid hb0
  have H4 := Lib.hid h4
  have T3 := Lib.hid t3
  obtain ⟨-, k0, k1, k2, -⟩ := t3
  clear h hf4 hf60 hwf hs h4
  go_enter Try.func9, Try.ntmps9
  go_wp2_with (first
    | (go_at_call 7; (with_reducible refine cn.mono ?_); rintro e w1 ⟨db, mb, v1, rfl, h1, h2, hD1, hS1⟩; have HD1 := Lib.hid hD1; have HS1 := Lib.hid hS1; have cl := lnew_any hD1 H4.out; clear cn hD1 hS1 h1 h2)
    | (go_at_call 8; (with_reducible refine cl.mono ?_); rintro e w2 ⟨lb, v2, rfl, hP2, hM2⟩; have HP2 := Lib.hid hP2; have hms : Ms Kp (w.alloc (.cells #[.int .i64 S, .int .i64 P, .int .i64 B] 23)) (fun _ => 0) w2 v2 := (Ms.one (k := 1) (by unfold Kp; omega) (HS1.out 1)).trans hM2; have HMS := Lib.hid hms; have hbl : Below (w.alloc (.cells #[.int .i64 S, .int .i64 P, .int .i64 B] 23)).heap.size (w.alloc (.cells #[.int .i64 S, .int .i64 P, .int .i64 B] 23)) w2 := hms.belowB (Nat.le_refl _) (fun _ _ => rfl) nkp0; have HBL2 := Lib.hid hbl; obtain ⟨-, q0, q1, q2, -⟩ := T3.out.below hbl; have cx := refNew_any HSH.out hP2.fr; clear cl hP2 hM2 hms hbl)
    | (go_at_call 24; (with_reducible refine cx.mono ?_); rintro e w3 ⟨gb, xb, v3, rfl, hR3, hM3⟩; have HR3 := Lib.hid hR3; have HM3 := Lib.hid hM3; clear cx hR3 hM3))
  have HBO : Hid (Bol w3 v3 w.heap.size S P B lb db mb gb xb (ldeeds S P B (L.take 0))) := Lib.hid (by
    refine ⟨HP2.out.ms HM3.out (by unfold Kr; omega) (by unfold Kr; omega) nkr0, HR3.out, ?_, ?_⟩
    · exact HM3.out.zero (Nat.le_trans hb0.size HMS.out.size) (HMS.out.zero hb0.size (fun _ _ => rfl))
    · exact Nat.le_trans hb0.size (Nat.le_trans HMS.out.size HM3.out.size))
  have HBW : Hid (Below w.heap.size w w3) := Lib.hid
    ((HB0.out.trans (HBL2.out.mono hb0.size)).trans (HM3.out.belowB (Nat.le_trans hb0.size HMS.out.size) (HMS.out.zero hb0.size (fun _ _ => rfl)) nkr0))
  clear hb0 HP2 HMS HBL2 HR3 HM3 HS1 HD1 k0 k1 k2 q0 q1 q2
  go_loopw [13, 14, 15, 16, 17, 18, 19, 20, 21, 40] (fun _ _ _ _ _ _ _ _ _ i wr => ∃ (j : Nat) (v : Nat → Nat), j ≤ n ∧ i = .int .i64 j ∧ Hid (Bol wr v w.heap.size S P B lb db mb gb xb (ldeeds S P B (L.take j))) ∧ Hid (Below w.heap.size w wr)) (fun _ _ _ _ _ _ _ _ _ i _ => n - (intOf i).toNat)
  case atStart => exact ⟨0, v3, Nat.zero_le _, rfl, HBO, HBW⟩
  case round =>
    obtain ⟨j, v, hj, rfl, HBB, HB⟩ := hrel
    by_cases hlt : j < n
    · obtain ⟨b, off, rfl, hbB, hc⟩ := (HS.out.below HB.out).2 (by omega)
      have hjL : j < L.length := by rw [HL.out]; exact hlt
      have hnx : ldeeds S P B (L.take (j + 1)) = ldeed S P B (ldeeds S P B (L.take j)) L[j] := by rw [List.take_succ_eq_append_getElem hjL, ldeeds_snoc]
      have hgood := ldeeds_good (S := S) (P := P) HB16.out (L.take j) (fun d hd => HF4.out d (List.mem_of_mem_take hd))
      rw [List.length_take, Nat.min_eq_left (by omega)] at hgood
      have hda := hc j hjL
      have hwf := HWF.out _ (List.getElem_mem hjL)
      have hd400 := HF4.out _ (List.getElem_mem hjL)
      obtain ⟨d, hd⟩ : ∃ d, d = L[j] := ⟨_, rfl⟩
      rw [← hd] at hnx hda hwf hd400
      have HNX := Lib.hid hnx
      have HW := Lib.hid hwf
      generalize ldeeds S P B (L.take j) = g at *
      obtain ⟨hgl, hg1, hg2⟩ := hgood
      obtain ⟨d0, d1, ⟨A3, c3, d2, hc3, hbs3, hno3⟩, d3⟩ := hda
      have hfr := HBB.out.plg.fr
      have hbx := below_new4 wr (.cells #[.int .i64 d.kind, .int .u8 (d.what.toNat : Int), .slice A3 d.data.length c3, .int .i64 d.seg] 56)
      have BX := Lib.hid (Lx.new d A3 c3 56 hfr)
      have BO := Lib.hid (HBB.out.below hbx)
      have HB2 := Lib.hid (HB.out.trans (hbx.mono HBB.out.le))
      have hdt : Dt wr v (.slice A3 d.data.length c3) d.data := ⟨A3, c3, rfl, hc3, hbs3.mono HBB.out.le, hno3, fun h0 a ha => by
        obtain ⟨b9, off9, e9, hlt9, -⟩ := hbs3.2 h0
        rw [ha] at e9
        injection e9 with e9
        rw [e9]
        exact HBB.out.zero _ hlt9⟩
      have HDT := Lib.hid (hdt.belowD hfr hbx)
      obtain ⟨n3, hn3⟩ : ∃ n3, n3 = d.data.length := ⟨_, rfl⟩
      rw [← hn3] at d2
      have HN3 := Lib.hid hn3
      have hn400 : n3 ≤ 400 := by omega
      obtain ⟨wb, hwb⟩ : ∃ wb, wb = wr.alloc (.cells #[.int .i64 d.kind, .int .u8 (d.what.toNat : Int), .slice A3 n3 c3, .int .i64 d.seg] 56) := ⟨_, rfl⟩
      rw [← hn3] at BX BO HB2 HDT hbx
      clear hc hd hnx hwf hfr hbs3 hc3 hno3 hdt hd400 hwb hn3
      by_cases hk1 : d.kind = 1
      · have hke : (d.kind == 1) = true := by simpa using hk1
        have HDE : Hid (ldeed S P B g d = putG P B d.what d.data 1 g) := Lib.hid (by unfold ldeed; rw [if_pos hk1])
        have cy := lMove_any (kind := d.what) BO.out.plg HDT.out (by omega) hg1 (by omega) (by omega)
        clear hk1
        go_wp2_with (first
          | (go_at_call 25; (with_reducible refine cy.mono ?_); rintro e w4 hto; obtain ⟨a, b, x, ha, hb, hx9, rfl, v4, hP4, hM4⟩ := PutTo.at0 hto; have HA9 := Lib.hid ha; have HB9 := Lib.hid hb; have HX9 := Lib.hid hx9; have hbo := below_new4 w4 (.cells #[.int .i64 a, .int .i64 b] 51); have HV4 : Hid (v4 w4.heap.size = 0) := Lib.hid (hP4.fr _ (Nat.le_refl _)); obtain ⟨hR4, hz4, hl4, hbw4⟩ := BO.out.p hM4; have HAB4 := Lib.hid (Ab.new w4 a b); have HP4 := Lib.hid (hP4.below hbo); have hR4b := hR4.below hbo; have HZ4 := Lib.hid (And.intro hz4 (Nat.le_trans hl4 hbo.size)); have HBW4 := Lib.hid ((HB2.out.trans hbw4).trans (hbo.mono hl4)); have bx4 := (BX.out.ms hM4 nkp0).below hbo; have hdt4 := (hM4.dt HDT.out nkp0).belowD hP4.fr hbo; have cx := refPut_at (kind := d.what) (need := 1) 1 rfl hR4b hdt4 (by omega) (by omega) hg1 (by omega) (by omega) (by omega); have k1 := bx4.c1; have k2 := bx4.c2; rw [← HN3.out] at k2; clear cy hto ha hb hx9 hP4 hM4 hR4 hz4 hl4 hbw4 hbo bx4 hR4b hdt4)
          | (go_at_call 26; (with_reducible refine cx.mono ?_); rintro e w5 hto; obtain ⟨rfl, v5, hR5, hM5⟩ := RefPutTo.at0 hto HA9.out HB9.out HX9.out; have HR5 := Lib.hid hR5; have HM5 := Lib.hid hM5; have hbo := below_new4 w5 (.cells #[.int .i64 a, .int .i64 b] 51); have hA5 := HAB4.out.ms hM5 (by rw [HV4.out]; exact nkr0); have hA6 := hA5.kept (hbo.block _ hA5.lt); have a2 := hA6.c0; have a3 := hA6.c1; have HBO5 := Lib.hid hbo; clear cx hto hR5 hM5 hbo hA5 hA6))
        go_roundw
        case rel =>
          have hbo := HBO5.out
          refine ⟨j + 1, v5, by omega, by go_num, Lib.hid ?_, Lib.hid ?_⟩
          · rw [HNX.out, HDE.out]
            exact ⟨(HP4.out.ms HM5.out (by unfold Kr; omega) (by unfold Kr; omega) nkr0).below hbo, HR5.out.below hbo, HM5.out.zero HZ4.out.2 HZ4.out.1, Nat.le_trans HZ4.out.2 (Nat.le_trans HM5.out.size hbo.size)⟩
          · exact (HBW4.out.trans (HM5.out.belowB HZ4.out.2 HZ4.out.1 nkr0)).trans (hbo.mono (Nat.le_trans HZ4.out.2 HM5.out.size))
        case measure => simp [intOf]; omega
      have hke1 : (d.kind == 1) = false := by simpa using hk1
      by_cases hk2 : d.kind = 2
      · have hke : (d.kind == 2) = true := by simpa using hk2
        have HDE : Hid (ldeed S P B g d = eraseG S d.seg g) := Lib.hid (by unfold ldeed; rw [if_neg hk1, if_pos hk2])
        have hbd : Below (wr.alloc (.cells #[.int .i64 d.kind, .int .u8 (d.what.toNat : Int), .slice A3 n3 c3, .int .i64 d.seg] 56)).heap.size (wr.alloc (.cells #[.int .i64 d.kind, .int .u8 (d.what.toNat : Int), .slice A3 n3 c3, .int .i64 d.seg] 56)) (wr.alloc (.cells #[.int .i64 d.kind, .int .u8 (d.what.toNat : Int), .slice A3 n3 c3, .int .i64 d.seg] 56)).drew := (Below.refl _ _).drew
        have BOD := Lib.hid (BO.out.below hbd)
        have HB2D := Lib.hid (HB2.out.trans (hbd.mono BO.out.le))
        have bxd := BX.out.below hbd
        have BXD := Lib.hid bxd
        have HP0 : Hid ((wr.alloc (.cells #[.int .i64 d.kind, .int .u8 (d.what.toNat : Int), .slice A3 n3 c3, .int .i64 d.seg] 56)).drew.cell? ⟨wr.heap.size, 3, none⟩ = some (.int .i64 d.seg)) := Lib.hid bxd.c3
        have cy := lerase_any BOD.out.plg d.seg HW.out.seg (by omega)
        obtain ⟨ec, hec⟩ : ∃ ec, ec = eraseErr S d.seg g := ⟨_, rfl⟩
        rw [← hec] at cy
        have HEC := Lib.hid hec
        have hne : (ec != ec) = false := by simp
        clear hk1 hk2 bxd hec hbd
        go_wp2
        go_region_held3 (fun W => W.cell? ⟨wr.heap.size, 3, none⟩ = some (.int .i64 d.seg))
          (first | exact HP0.out | exact HP1.out | exact HP2.out)
          ((first
            | (go_at_call 27; (with_reducible refine cy.mono ?_); rintro e w4 ⟨rfl, hP4, hM4⟩; have hM4p := hM4.mono k13_p; obtain ⟨hR4, hz4, hl4, hbw4⟩ := BOD.out.p hM4p; have HP4 := Lib.hid hP4; have HZ4 := Lib.hid (And.intro hz4 hl4); have HBW4 := Lib.hid (HB2D.out.trans hbw4); have bx4 := BXD.out.ms hM4p nkp0; have BX4 := Lib.hid bx4; have HP1 := Lib.hid bx4.c3; have cx := refLerase_any hR4 d.seg (by omega); rw [← HEC.out] at cx; clear cy hP4 hM4 hM4p hR4 hz4 hl4 hbw4 bx4)
            | (go_at_call 28; (with_reducible refine cx.mono ?_); rintro e w5 ⟨rfl, v5, hR5, hM5⟩; have HR5 := Lib.hid hR5; have HM5 := Lib.hid hM5; have HP2 := Lib.hid (BX4.out.ms hM5 nkr0).c3; clear cx hR5 hM5)))
        all_goals
          go_wp2
          go_roundw
          case rel =>
            refine ⟨j + 1, v5, by omega, by go_num, Lib.hid ?_, Lib.hid ?_⟩
            · rw [HNX.out, HDE.out]
              exact ⟨HP4.out.ms HM5.out (by unfold Kr; omega) (by unfold Kr; omega) nkr0, HR5.out, HM5.out.zero HZ4.out.2 HZ4.out.1, Nat.le_trans HZ4.out.2 HM5.out.size⟩
            · exact HBW4.out.trans (HM5.out.belowB HZ4.out.2 HZ4.out.1 nkr0)
          case measure => simp [intOf]; omega
      have hke2 : (d.kind == 2) = false := by simpa using hk2
      by_cases hk3 : d.kind = 3
      · have hke : (d.kind == 3) = true := by simpa using hk3
        have HDE : Hid (ldeed S P B g d = sealG g) := Lib.hid (by unfold ldeed; rw [if_neg hk1, if_neg hk2, if_pos hk3])
        have cy := lseal_any BO.out.plg
        clear hk1 hk2 hk3
        go_wp2_with (first
          | (go_at_call 29; (with_reducible refine cy.mono ?_); rintro e w4 ⟨rfl, hP4, hM4⟩; obtain ⟨hR4, hz4, hl4, hbw4⟩ := BO.out.p (hM4.mono k13_p); have HP4 := Lib.hid hP4; have HZ4 := Lib.hid (And.intro hz4 hl4); have HBW4 := Lib.hid (HB2.out.trans hbw4); have cx := refLseal_any hR4; clear cy hP4 hM4 hR4 hz4 hl4 hbw4)
          | (go_at_call 30; (with_reducible refine cx.mono ?_); rintro e w5 ⟨rfl, hR5, hS5⟩; have HR5 := Lib.hid hR5; have HM5 : Hid (Ms Kr w4 v w5 v) := Lib.hid (Ms.one (k := 4) (by unfold Kr; omega) hS5); clear cx hR5 hS5))
        go_roundw
        case rel =>
          refine ⟨j + 1, v, by omega, by go_num, Lib.hid ?_, Lib.hid ?_⟩
          · rw [HNX.out, HDE.out]
            exact ⟨HP4.out.ms HM5.out (by unfold Kr; omega) (by unfold Kr; omega) nkr0, HR5.out, HM5.out.zero HZ4.out.2 HZ4.out.1, Nat.le_trans HZ4.out.2 HM5.out.size⟩
          · exact HBW4.out.trans (HM5.out.belowB HZ4.out.2 HZ4.out.1 nkr0)
        case measure => simp [intOf]; omega
      have hke3 : (d.kind == 3) = false := by simpa using hk3
      by_cases hk4 : d.kind = 4
      · have hke : (d.kind == 4) = true := by simpa using hk4
        have HDE : Hid (ldeed S P B g d = syncG g) := Lib.hid (by unfold ldeed; rw [if_neg hk1, if_neg hk2, if_neg hk3, if_pos hk4])
        have cy := lsync_any BO.out.plg
        clear hk1 hk2 hk3 hk4
        go_wp2_with (first
          | (go_at_call 31; (with_reducible refine cy.mono ?_); rintro e w4 ⟨rfl, hP4, hM4⟩; obtain ⟨hR4, hz4, hl4, hbw4⟩ := BO.out.p (hM4.mono k13_p); have HP4 := Lib.hid hP4; have HZ4 := Lib.hid (And.intro hz4 hl4); have HBW4 := Lib.hid (HB2.out.trans hbw4); have HR4 := Lib.hid hR4; have cx := refSync_any hR4.rdv (by omega) (by omega); obtain ⟨rb, cap, hgb, -⟩ := hR4.blk; obtain ⟨r0, -⟩ := hgb.c; clear cy hP4 hM4 hR4 hz4 hl4 hbw4 hgb)
          | (go_at_call 32; (with_reducible refine cx.mono ?_); rintro e w5 ⟨rfl, hD5, hS5⟩; have HD5 := Lib.hid hD5; have HS5 := Lib.hid hS5; have HM5 : Hid (Ms Kr w4 v w5 v) := Lib.hid (Ms.one (k := 2) (by unfold Kr; omega) hS5); clear cx hD5 hS5))
        go_roundw
        case rel =>
          refine ⟨j + 1, v, by omega, by go_num, Lib.hid ?_, Lib.hid ?_⟩
          · rw [HNX.out, HDE.out]
            obtain ⟨rb2, cap2, q1, q2, q3, q4⟩ := HR4.out.blk
            exact ⟨HP4.out.ms HM5.out (by unfold Kr; omega) (by unfold Kr; omega) nkr0, ⟨HR4.out.inv.sync, HD5.out, HR4.out.vg, rb2, cap2, q1.kept (HS5.out.block gb q1.lt (by rw [HR4.out.vg]; omega)), q2.kept (HS5.out.block rb2 q2.lt (by rw [q3]; omega)), q3, q4⟩, HM5.out.zero HZ4.out.2 HZ4.out.1, Nat.le_trans HZ4.out.2 HM5.out.size⟩
          · exact HBW4.out.trans (HM5.out.belowB HZ4.out.2 HZ4.out.1 nkr0)
        case measure => simp [intOf]; omega
      have hke4 : (d.kind == 4) = false := by simpa using hk4
      have HDE : Hid (ldeed S P B g d = putG P B d.what d.data 2 g) := Lib.hid (by unfold ldeed; rw [if_neg hk1, if_neg hk2, if_neg hk3, if_neg hk4])
      have cy := lAppend_any (kind := d.what) BO.out.plg HDT.out (by omega) hg1 (by omega) (by omega)
      clear hk1 hk2 hk3 hk4
      go_wp2_with (first
        | (go_at_call 17; (with_reducible refine cy.mono ?_); rintro e w4 hto; obtain ⟨a, b, x, ha, hb, hx9, rfl, v4, hP4, hM4⟩ := PutTo.at0 hto; have HA9 := Lib.hid ha; have HB9 := Lib.hid hb; have HX9 := Lib.hid hx9; have hbo := below_new4 w4 (.cells #[.int .i64 a, .int .i64 b] 51); have HV4 : Hid (v4 w4.heap.size = 0) := Lib.hid (hP4.fr _ (Nat.le_refl _)); obtain ⟨hR4, hz4, hl4, hbw4⟩ := BO.out.p hM4; have HAB4 := Lib.hid (Ab.new w4 a b); have HP4 := Lib.hid (hP4.below hbo); have hR4b := hR4.below hbo; have HZ4 := Lib.hid (And.intro hz4 (Nat.le_trans hl4 hbo.size)); have HBW4 := Lib.hid ((HB2.out.trans hbw4).trans (hbo.mono hl4)); have bx4 := (BX.out.ms hM4 nkp0).below hbo; have hdt4 := (hM4.dt HDT.out nkp0).belowD hP4.fr hbo; have cx := refPut_at (kind := d.what) (need := 2) 2 rfl hR4b hdt4 (by omega) (by omega) hg1 (by omega) (by omega) (by omega); have k1 := bx4.c1; have k2 := bx4.c2; rw [← HN3.out] at k2; clear cy hto ha hb hx9 hP4 hM4 hR4 hz4 hl4 hbw4 hbo bx4 hR4b hdt4)
        | (go_at_call 26; (with_reducible refine cx.mono ?_); rintro e w5 hto; obtain ⟨rfl, v5, hR5, hM5⟩ := RefPutTo.at0 hto HA9.out HB9.out HX9.out; have HR5 := Lib.hid hR5; have HM5 := Lib.hid hM5; have hbo := below_new4 w5 (.cells #[.int .i64 a, .int .i64 b] 51); have hA5 := HAB4.out.ms hM5 (by rw [HV4.out]; exact nkr0); have hA6 := hA5.kept (hbo.block _ hA5.lt); have a2 := hA6.c0; have a3 := hA6.c1; have HBO5 := Lib.hid hbo; clear cx hto hR5 hM5 hbo hA5 hA6))
      go_roundw
      case rel =>
        have hbo := HBO5.out
        refine ⟨j + 1, v5, by omega, by go_num, Lib.hid ?_, Lib.hid ?_⟩
        · rw [HNX.out, HDE.out]
          exact ⟨(HP4.out.ms HM5.out (by unfold Kr; omega) (by unfold Kr; omega) nkr0).below hbo, HR5.out.below hbo, HM5.out.zero HZ4.out.2 HZ4.out.1, Nat.le_trans HZ4.out.2 (Nat.le_trans HM5.out.size hbo.size)⟩
        · exact (HBW4.out.trans (HM5.out.belowB HZ4.out.2 HZ4.out.1 nkr0)).trans (hbo.mono (Nat.le_trans HZ4.out.2 HM5.out.size))
      case measure => simp [intOf]; omega
    · obtain rfl : j = n := by omega
      have HTK : Hid (L.take j = L) := Lib.hid (List.take_of_length_le (by rw [HL.out]; exact Nat.le_refl _))
      go_wp2
      go_ret3
      have hb := HBB.out
      rw [HTK.out] at hb
      exact ⟨lb, db, mb, gb, xb, v, rfl, hb, HB.out⟩
end
end Go.Proofs.YtndbjdnfibpicaaR
