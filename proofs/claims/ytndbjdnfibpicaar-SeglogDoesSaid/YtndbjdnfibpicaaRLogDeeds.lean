/-
  The law's deeds: as they lie, what they do; Few, May.
-/
import Derived.Test.YtndbjdnfibpicaaRLogMem
import Derived.Test.YtndbjdnfibpicaaRFlashRefFull
namespace Go.Proofs.YtndbjdnfibpicaaR
open Go.ChangeShapes Go.WideShapes Go.ChangeAt Go.RowKit Fl Lo
set_option maxRecDepth 100000

/-- a deed -/
structure Ld where
  kind : Int
  what : UInt8
  data : List UInt8
  seg : Int
structure Ld.Wf (d : Ld) : Prop where
  kind : W64 d.kind
  seg : W64 d.seg
/-- a deed's cells, from an offset on -/
def LdAt (w : World) (B b off : Nat) (d : Ld) : Prop :=
  w.cell? ⟨b, off, none⟩ = some (.int .i64 d.kind) ∧ w.cell? ⟨b, off + 1, none⟩ = some (.int .u8 (d.what.toNat : Int)) ∧
  (∃ A c, w.cell? ⟨b, off + 2, none⟩ = some (.slice A d.data.length c) ∧ d.data.length ≤ c ∧ Bs w B A d.data.length d.data ∧ (A = none → c = 0)) ∧
  w.cell? ⟨b, off + 3, none⟩ = some (.int .i64 d.seg)
theorem LdAt.below {w w' : World} {B b off : Nat} {d : Ld} (h : LdAt w B b off d) (hb : Below B w w') (hB : b < B) : LdAt w' B b off d := by
  obtain ⟨h0, h1, ⟨A, c, h2, hc, hbs, hno⟩, h3⟩ := h
  exact ⟨(hb.cell (p := ⟨b, off, none⟩) hB).trans h0, (hb.cell (p := ⟨b, off + 1, none⟩) hB).trans h1, ⟨A, c, (hb.cell (p := ⟨b, off + 2, none⟩) hB).trans h2, hc, hbs.below hb, hno⟩, (hb.cell (p := ⟨b, off + 3, none⟩) hB).trans h3⟩
/-- a row of deeds -/
def Lds (w : World) (B : Nat) (A : Option Addr) (n : Nat) (L : List Ld) : Prop :=
  L.length = n ∧ (0 < n → ∃ b off, A = some ⟨b, off, none⟩ ∧ b < B ∧ ∀ j (h : j < L.length), LdAt w B b (off + j * 4) L[j])
theorem Lds.below {w w' : World} {B n : Nat} {A : Option Addr} {L : List Ld} (h : Lds w B A n L) (hb : Below B w w') : Lds w' B A n L :=
  ⟨h.1, fun h0 => by
    obtain ⟨b, off, e, hB, hc⟩ := h.2 h0
    exact ⟨b, off, e, hB, fun j hj => (hc j hj).below hb hB⟩⟩
theorem Lds.mono {w : World} {B B' n : Nat} {A : Option Addr} {L : List Ld} (h : Lds w B A n L) (hB : B ≤ B') : Lds w B' A n L :=
  ⟨h.1, fun h0 => by
    obtain ⟨b, off, e, hb, hc⟩ := h.2 h0
    exact ⟨b, off, e, Nat.lt_of_lt_of_le hb hB, fun j hj => by
      obtain ⟨x0, x1, ⟨A3, c3, x2, y1, y2, y3⟩, x3⟩ := hc j hj
      exact ⟨x0, x1, ⟨A3, c3, x2, y1, y2.mono hB, y3⟩, x3⟩⟩⟩
def fewL (L : List Ld) : Bool := L.all (fun d => decide (d.data.length ≤ 400)) && decide (L.length ≤ 60)
theorem fewL_all {L : List Ld} (h : fewL L = true) : (∀ d ∈ L, d.data.length ≤ 400) ∧ L.length ≤ 60 := by
  unfold fewL at h
  rw [Bool.and_eq_true, List.all_eq_true] at h
  exact ⟨fun d hd => by simpa using h.1 d hd, by simpa using h.2⟩
/-- what a deed does -/
def ldeed (S P B : Nat) (g : Lg) (d : Ld) : Lg :=
  if d.kind = 1 then putG P B d.what d.data 1 g else if d.kind = 2 then eraseG S d.seg g else if d.kind = 3 then sealG g else if d.kind = 4 then syncG g else putG P B d.what d.data 2 g
/-- how much there can be behind so many deeds -/
structure Lgood (j : Nat) (g : Lg) : Prop where
  len : g.M.length ≤ 30 * j
  n1 : 1 ≤ g.next
  n2 : g.next ≤ 1 + j
theorem putG_good {P B : Nat} {kind : UInt8} {data : List UInt8} {need j : Nat} {g : Lg} (h : Lgood j g) (hB : 16 ≤ B) (hd : data.length ≤ 400) : Lgood (j + 1) (putG P B kind data need g) := by
  have hK := pages_le data.length hB
  obtain ⟨h1, h2, h3⟩ := h
  unfold putG
  split
  · have e1 : (laid B kind data (ready P B data.length g)).M.length = (ready P B data.length g).M.length + Fm.pages data.length B := app_length _ _ _ _ _ _
    have e2 : (laid B kind data (ready P B data.length g)).next = (ready P B data.length g).next := rfl
    have e3 : (ready P B data.length g).M.length ≤ g.M.length + 1 ∧ g.next ≤ (ready P B data.length g).next ∧ (ready P B data.length g).next ≤ g.next + 1 := by
      unfold ready
      split
      · exact ⟨by omega, by omega, by omega⟩
      · have e4 : (opened B g).M.length = g.M.length + 1 := app_length _ _ _ _ _ _
        have e5 : (opened B g).next = g.next + 1 := rfl
        exact ⟨by omega, by omega, by omega⟩
    exact ⟨by omega, by omega, by omega⟩
  · exact ⟨by omega, h2, by omega⟩
theorem ldeed_good {S P B j : Nat} {g : Lg} {d : Ld} (h : Lgood j g) (hB : 16 ≤ B) (hd : d.data.length ≤ 400) : Lgood (j + 1) (ldeed S P B g d) := by
  unfold ldeed
  split
  · exact putG_good h hB hd
  split
  · unfold eraseG
    split
    · exact ⟨Nat.le_trans (List.length_filter_le _ _) (by have := h.len; omega), h.n1, by have := h.n2; show g.next ≤ _; omega⟩
    · exact ⟨by have := h.len; omega, h.n1, by have := h.n2; omega⟩
  split
  · exact ⟨by have := h.len; show g.M.length ≤ _; omega, h.n1, by have := h.n2; show g.next ≤ _; omega⟩
  split
  · exact ⟨by have := h.len; show (Fl.sync g.M).length ≤ _; rw [sync_length]; omega, h.n1, by have := h.n2; show g.next ≤ _; omega⟩
  · exact putG_good h hB hd
set_option maxHeartbeats 2000000 in
theorem fewL_any (A : Option Addr) (n c : Nat) (L : List Ld) (w : World) (h : Lds w w.heap.size A n L) (hn : n ≤ maxLen) :
    Calls Try.prog 5 #[.slice A n c] w fun e w' => e = .returned (.bool (fewL L)) ∧ Below w.heap.size w w' := by
  have HL : Hid (L.length = n) := Lib.hid h.1
  have HS := Lib.hid h
  have hn2 : n ≤ 9223372036854775807 := by unfold maxLen at hn; omega
  clear h hn
  go_enter Try.func5, Try.ntmps5
  go_wp2
  go_loopw [4, 7] (fun _ i wr => ∃ j : Nat, j ≤ n ∧ i = .int .i64 j ∧ Hid (∀ d ∈ L.take j, d.data.length ≤ 400) ∧ Hid (Below w.heap.size w wr)) (fun _ i _ => n - (intOf i).toNat)
  case atStart => exact ⟨0, Nat.zero_le _, rfl, Lib.hid (by simp), Lib.hid (Below.refl _ _)⟩
  case round =>
    obtain ⟨j, hj, rfl, HA, HB⟩ := hrel
    by_cases hlt : j < n
    · obtain ⟨b, off, rfl, hbB, hc⟩ := (HS.out.below HB.out).2 (by omega)
      have hjL : j < L.length := by rw [HL.out]; exact hlt
      obtain ⟨d0, d1, ⟨A3, c3, d2, -, -, -⟩, d3⟩ := hc j hjL
      have HYES : Hid (L[j].data.length ≤ 400 → ∀ d ∈ L.take (j + 1), d.data.length ≤ 400) := Lib.hid fun h1 d hd => by
        rw [List.take_succ_eq_append_getElem hjL] at hd
        rcases List.mem_append.1 hd with hd | hd
        · exact HA.out d hd
        · simp only [List.mem_singleton] at hd
          subst hd
          exact h1
      have HNO : Hid (¬ L[j].data.length ≤ 400 → fewL L = false) := Lib.hid fun h1 => by
        cases hf : fewL L with
        | false => rfl
        | true => exact absurd ((fewL_all hf).1 _ (List.getElem_mem hjL)) h1
      clear hc
      generalize L[j].data.length = dl at d2 HYES HNO
      generalize L[j].kind = q0 at d0
      generalize L[j].what = q1 at d1
      generalize L[j].seg = q3 at d3
      by_cases hdl : dl ≤ 400
      · have hdd : decide ((400 : Int) < dl) = false := decide_eq_false (by omega)
        have HY := Lib.hid (HYES.out hdl)
        clear HYES HNO
        have hdl2 : ¬ (400 : Int) < dl := by omega
        go_wp2
        go_roundw
        case rel => exact ⟨j + 1, by omega, by go_num, HY, Lib.hid (HB.out.alloc HB.out.size _)⟩
        case measure => simp [intOf]; omega
      · have hdd : decide ((400 : Int) < dl) = true := decide_eq_true (by omega)
        have HN := Lib.hid (HNO.out hdl)
        clear HYES HNO
        have hdl2 : (400 : Int) < dl := by omega
        go_wp2
        go_ret
        exact ⟨by rw [HN.out]; rfl, HB.out.alloc HB.out.size _⟩
    · obtain rfl : j = n := by omega
      have HA2 : Hid (fewL L = decide (j ≤ 60)) := Lib.hid (by
        have := HA.out
        rw [List.take_of_length_le (by rw [HL.out]; exact Nat.le_refl _)] at this
        unfold fewL
        rw [HL.out, List.all_eq_true.2 (fun d hd => by simpa using this d hd)]
        rfl)
      by_cases h60 : j ≤ 60
      · have hd : decide ((j : Int) ≤ 60) = true := decide_eq_true (by omega)
        go_wp2
        go_ret
        exact ⟨by rw [HA2.out, decide_eq_true h60]; rfl, HB.out⟩
      · have hd : decide ((j : Int) ≤ 60) = false := decide_eq_false (by omega)
        go_wp2
        go_ret
        exact ⟨by rw [HA2.out, decide_eq_false h60]; rfl, HB.out⟩
/-- whether a log may be on such a device -/
theorem may_any (s p b : Int) (w : World) : Calls Try.prog 6 #[.agg #[.int .i64 s, .int .i64 p, .int .i64 b]] w fun e w' => e = .returned (.bool (shpB s p b && decide (4 ≤ s))) ∧ Below w.heap.size w w' := by
  have hb0 := below_new4 w (.cells #[.int .i64 s, .int .i64 p, .int .i64 b] 23)
  have t3 := Three.new w (.int .i64 s) (.int .i64 p) (.int .i64 b) 23
  have T3 := Lib.hid t3
  obtain ⟨-, k0, k1, k2, -⟩ := t3
  have cs := refShape_any s p b (w.alloc (.cells #[.int .i64 s, .int .i64 p, .int .i64 b] 23))
  generalize shpB s p b = q at *
  cases q
  all_goals
    go_enter Try.func6, Try.ntmps6
    go_wp2_with (go_at_call 18; (with_reducible refine cs.mono ?_); rintro e w1 ⟨rfl, hb1⟩; have HB1 := Lib.hid (hb0.trans (hb1.mono hb0.size)); obtain ⟨-, j0, j1, j2, -⟩ := T3.out.below hb1; clear hb1 cs)
    go_ret
    exact ⟨by simp, HB1.out⟩
end Go.Proofs.YtndbjdnfibpicaaR
