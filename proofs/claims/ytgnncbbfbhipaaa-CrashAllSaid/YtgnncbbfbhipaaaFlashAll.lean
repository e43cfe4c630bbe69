/-
  Both devices, call by call: whatever is written, one contract each. A device behind some deeds.
-/
import Derived.Test.YtgnncbbfbhipaaaFlashCrash
import Derived.Test.YtgnncbbfbhipaaaFlashRefWrite
namespace Go.Proofs.Ytgnncbbfbhipaaa
open Go.ChangeShapes Go.WideShapes Go.ChangeAt Go.RowKit Fl
set_option maxRecDepth 100000

/-- what a write leaves -/
def wput (S P B : Nat) (L : List Pg) (s p : Int) (l : List UInt8) : List Pg := if 0 ≤ s ∧ s < S ∧ 0 ≤ p ∧ p < P then (if B < l.length then L else if (lk L s p).isSome then L else put s p l L) else L
section
variable {k S P B db mb xb : Nat} {w : World} {v : Nat → Nat} {L : List Pg}
theorem write_all (h : Dev w v k S P B db mb L) (hk : k ≠ 0) (s p : Int) (hs : W64 s) (hp : W64 p) (A : Option Addr) (n c : Nat) (l : List UInt8) (hx : Sl w (.slice A n c) l) (hL : L.length ≤ 100000) :
    Calls Try.prog 33 #[.pointer (some ⟨db, 0, none⟩), .int .i64 s, .int .i64 p, .slice A n c] w fun e w' => e = .returned (.int .i64 (wcode S P B L s p l.length)) ∧ ∃ v', Dev w' v' k S P B db mb (wput S P B L s p l) ∧ Stp k w w' v v' := by
  obtain ⟨A', c', e, _⟩ := id hx
  have hnl : n = l.length := by injection e
  clear e
  unfold wcode wput
  by_cases hin : 0 ≤ s ∧ s < S ∧ 0 ≤ p ∧ p < P
  · rw [if_pos hin, if_pos hin]
    by_cases hl : B < l.length
    · rw [if_pos hl, if_pos hl]
      refine (write_long h s p A n c hin (by omega)).mono ?_
      rintro e w' ⟨rfl, hb⟩
      exact ⟨rfl, v, h.below hb, Stp.below hb h.fr⟩
    · rw [if_neg hl, if_neg hl]
      cases hu : lk L s p with
      | some r =>
        refine (write_used h s p hs hp A n c hin (by omega) (by rw [hu]; rfl)).mono ?_
        rintro e w' ⟨rfl, hb⟩
        exact ⟨rfl, v, h.below hb, Stp.below hb h.fr⟩
      | none =>
        refine (write_ok h hk s p hs hp A n c l hx hin (by omega) hu hL).mono ?_
        rintro e w' ⟨rfl, v', h1, h2⟩
        exact ⟨rfl, v', h1, h2⟩
  · rw [if_neg hin, if_neg hin]
    refine (write_out h s p _ hin).mono ?_
    rintro e w' ⟨rfl, hb⟩
    exact ⟨rfl, v, h.below hb, Stp.below hb h.fr⟩
theorem refWrite_all (h : Rdv w v k S P B xb L) (hk : k ≠ 0) (s p : Int) (A : Option Addr) (n c : Nat) (l : List UInt8) (hx : Bs w w.heap.size A n l) (hL : L.length ≤ 100000) :
    Calls Try.prog 34 #[.pointer (some ⟨xb, 0, none⟩), .int .i64 s, .int .i64 p, .slice A n c] w fun e w' => e = .returned (.int .i64 (wcode S P B L s p l.length)) ∧ ∃ v', Rdv w' v' k S P B xb (wput S P B L s p l) ∧ Stp k w w' v v' := by
  have hnl : n = l.length := hx.1.symm
  unfold wcode wput
  by_cases hin : 0 ≤ s ∧ s < S ∧ 0 ≤ p ∧ p < P
  · rw [if_pos hin, if_pos hin]
    by_cases hl : B < l.length
    · rw [if_pos hl, if_pos hl]
      refine (refWrite_long h s p A n c hin (by omega)).mono ?_
      rintro e w' ⟨rfl, hb⟩
      exact ⟨rfl, v, h.below hb, Stp.below hb h.fr⟩
    · rw [if_neg hl, if_neg hl]
      cases hu : lk L s p with
      | some r =>
        refine (refWrite_used h s p A n c hin (by omega) (by rw [hu]; rfl) hL).mono ?_
        rintro e w' ⟨rfl, hb⟩
        exact ⟨rfl, v, h.below hb, Stp.below hb h.fr⟩
      | none =>
        refine (refWrite_ok h hk s p A n c l hx hin (by omega) hu hL).mono ?_
        rintro e w' ⟨rfl, v', h1, h2⟩
        exact ⟨rfl, v', h1, h2⟩
  · rw [if_neg hin, if_neg hin]
    refine (refWrite_out h s p _ hin).mono ?_
    rintro e w' ⟨rfl, hb⟩
    exact ⟨rfl, v, h.below hb, Stp.below hb h.fr⟩
end

/-- a deed -/
structure Dd where
  kind : Int
  seg : Int
  page : Int
  data : List UInt8
  keep : Nat
  torn : Int
  cut : Int
structure Dd.Wf (d : Dd) : Prop where
  kind : W64 d.kind
  seg : W64 d.seg
  page : W64 d.page
  keep : d.keep < 18446744073709551616
/-- a deed's cells, from an offset on -/
def DeedAt (w : World) (B b off : Nat) (d : Dd) : Prop :=
  w.cell? ⟨b, off, none⟩ = some (.int .i64 d.kind) ∧ w.cell? ⟨b, off + 1, none⟩ = some (.int .i64 d.seg) ∧ w.cell? ⟨b, off + 2, none⟩ = some (.int .i64 d.page) ∧
  (∃ A c, w.cell? ⟨b, off + 3, none⟩ = some (.slice A d.data.length c) ∧ d.data.length ≤ c ∧ Bs w B A d.data.length d.data ∧ (A = none → c = 0)) ∧
  w.cell? ⟨b, off + 4, none⟩ = some (.int .u64 d.keep) ∧ w.cell? ⟨b, off + 5, none⟩ = some (.int .i64 d.torn) ∧ w.cell? ⟨b, off + 6, none⟩ = some (.int .i64 d.cut)
theorem DeedAt.below {w w' : World} {B b off : Nat} {d : Dd} (h : DeedAt w B b off d) (hb : Below B w w') (hB : b < B) : DeedAt w' B b off d := by
  obtain ⟨h0, h1, h2, ⟨A, c, h3, hc, hbs, hno⟩, h4, h5, h6⟩ := h
  exact ⟨(hb.cell (p := ⟨b, off, none⟩) hB).trans h0, (hb.cell (p := ⟨b, off + 1, none⟩) hB).trans h1, (hb.cell (p := ⟨b, off + 2, none⟩) hB).trans h2, ⟨A, c, (hb.cell (p := ⟨b, off + 3, none⟩) hB).trans h3, hc, hbs.below hb, hno⟩,
    (hb.cell (p := ⟨b, off + 4, none⟩) hB).trans h4, (hb.cell (p := ⟨b, off + 5, none⟩) hB).trans h5, (hb.cell (p := ⟨b, off + 6, none⟩) hB).trans h6⟩
/-- a row of deeds -/
def Ds (w : World) (B : Nat) (A : Option Addr) (n : Nat) (L : List Dd) : Prop :=
  L.length = n ∧ (0 < n → ∃ b off, A = some ⟨b, off, none⟩ ∧ b < B ∧ ∀ j (h : j < L.length), DeedAt w B b (off + j * 7) L[j])
theorem Ds.below {w w' : World} {B n : Nat} {A : Option Addr} {L : List Dd} (h : Ds w B A n L) (hb : Below B w w') : Ds w' B A n L :=
  ⟨h.1, fun h0 => by
    obtain ⟨b, off, e, hB, hc⟩ := h.2 h0
    exact ⟨b, off, e, hB, fun j hj => (hc j hj).below hb hB⟩⟩
def fewB (L : List Dd) : Bool := L.all (fun d => decide (d.data.length ≤ 300)) && decide (L.length ≤ 60)
theorem fewB_all {L : List Dd} (h : fewB L = true) : (∀ d ∈ L, d.data.length ≤ 300) ∧ L.length ≤ 60 := by
  unfold fewB at h
  rw [Bool.and_eq_true, List.all_eq_true] at h
  exact ⟨fun d hd => by simpa using h.1 d hd, by simpa using h.2⟩
/-- what a deed does -/
def deed (S P B : Nat) (L : List Pg) (d : Dd) : List Pg :=
  if d.kind = 1 then sync L else if d.kind = 2 then (if 0 ≤ d.seg ∧ d.seg < S then erase d.seg L else L) else if d.kind = 3 then crash (keep B d.keep d.torn d.cut) 0 L else wput S P B L d.seg d.page d.data
theorem deed_length (S P B : Nat) (L : List Pg) (d : Dd) : (deed S P B L d).length ≤ L.length + 1 := by
  unfold deed wput
  have h1 := erase_length d.seg L
  have h2 := crash_length (keep B d.keep d.torn d.cut) L 0
  have h3 := sync_length L
  have h4 : (put d.seg d.page d.data L).length = L.length + 1 := by simp [put]
  split
  · omega
  · split
    · split <;> omega
    · split
      · omega
      · split
        · split
          · omega
          · split <;> omega
        · omega
end Go.Proofs.Ytgnncbbfbhipaaa
