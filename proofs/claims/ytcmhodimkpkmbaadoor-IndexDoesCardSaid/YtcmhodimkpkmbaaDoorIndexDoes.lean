/-
  A slice of bytes that came in, as the row's step opens it, read as a list of bytes.
  What comes in, as the row's step opens it: a deed on an index (a struct of nine cells), a slice of such.
  The row's last step where the world behind the call is known below the old heap alone; and what the listed table gives.
  What the listed table of the lowest bits gives.
  The statement on what an index does, of the landed index.
  The statement on what an index does, as the row asks.
  PROVED HERE: for every input the statement IndexDoes answers true, and its arguments read afterwards as before. No condition but the listed tables of the library, which the card ties to the program's text.
-/
import Derived.Test.YtcmhodimkpkmbaaDoorBytes
import Derived.OpenShut
import Derived.Test.YtcmhodimkpkmbaaDoorIxDeeds
import Derived.WalkKit
import Derived.ProofKit
import Derived.ChangeArms
import Derived.ChangeSame
import Derived.ChangeSlices
import Derived.Deep.Slices
import Derived.Deep.Strs
import Derived.Lib.SmallJoins
import Derived.Test.YtcmhodimkpkmbaaDoorRows
import Derived.Below
import Derived.Deep.DeepHandedRow
import Derived.Lib.LaidTab
import Derived.Lib.AppendIntMem
import Derived.Test.YtcmhodimkpkmbaaDoorBitLib
import Derived.LaidSub
import Derived.Test.YtcmhodimkpkmbaaDoorIxLikeA
import Derived.Test.YtcmhodimkpkmbaaDoorIxAwake
import Derived.Test.YtcmhodimkpkmbaaDoorIxLike
import Derived.Test.YtcmhodimkpkmbaaDoorCards
import Derived.Test.YtcmhodimkpkmbaaDoorTie
import Derived.ShutString
import Derived.ChangeOld
import Derived.Carry
import Derived.ChangeMaps5
import Derived.LaidMore
import Derived.LaidHandle
import Derived.SevenTiedAt
section
namespace Go.Proofs.YtcmhodimkpkmbaaDoor
open Go.ChangeShapes Go.WideShapes Go.ChangeAt Go.RowKit

/-- a slice of integers that came in: none, or a row of cells, spare ones too -/
def RowIn (k : IntKind) (w : World) (a : Option Addr) (len cap : Nat) (zs : List Int) : Prop :=
  (a = none ∧ len = 0 ∧ cap = 0 ∧ zs = []) ∨
  ∃ x, a = some x ∧ len ≤ cap ∧ cap ≤ maxLen ∧ zs.length = cap ∧ (∀ i, i < zs.length → w.cell? (x.add i) = some (.int k (zs.getD i 0))) ∧ ∀ n ∈ zs, (Lit.int k n).wf = true

theorem u8_of {z : Int} (h : (Lit.int .u8 z).wf = true) : ∃ x : UInt8, z = (x.toNat : Int) := by
  have hb := bounds_u8 h
  refine ⟨UInt8.ofNat z.toNat, ?_⟩
  have : (UInt8.ofNat z.toNat).toNat = z.toNat % 256 := by simp
  omega

theorem bs_of_rowIn {w : World} {a : Option Addr} {len cap : Nat} {zs : List Int} (h : RowIn .u8 w a len cap zs) : ∃ l : List UInt8, Bs w w.heap.size a len l ∧ len ≤ cap := by
  rcases h with ⟨rfl, rfl, rfl, rfl⟩ | ⟨x, rfl, hl, hm, hz, hcell, hwz⟩
  · exact ⟨[], Bs.nil _ _ _, Nat.le_refl _⟩
  · refine ⟨(zs.take len).map fun z => UInt8.ofNat z.toNat, ⟨by simp; omega, fun h0 => ?_⟩, hl⟩
    obtain ⟨b, off, spot⟩ := x
    have hc0 := hcell 0 (by omega)
    have hspot : spot = none := by simpa [Addr.add] using World.cell?_spot hc0
    subst hspot
    refine ⟨b, off, rfl, ?_, fun j hj => ?_⟩
    · have := World.block_lt_of_cell? w _ hc0
      rwa [block_of_add] at this
    · have hj' : j < zs.length := by simp at hj; omega
      have hc := hcell j hj'
      have e : (⟨b, off, none⟩ : Addr).add j = ⟨b, off + j, none⟩ := by
        simp only [Addr.add]
        split <;> simp_all
      rw [e] at hc
      rw [hc]
      obtain ⟨x, hx⟩ := u8_of (hwz zs[j] (List.getElem_mem hj'))
      rw [List.getElem_map, List.getElem_take, List.getD_eq_getElem?_getD, List.getElem?_eq_getElem hj', Option.getD_some, hx]
      simp
end Go.Proofs.YtcmhodimkpkmbaaDoor
end
section
namespace Go.Proofs.YtcmhodimkpkmbaaDoor
open Go.ChangeShapes Go.WideShapes Go.ChangeAt Go.RowKit Go.Deep
set_option maxRecDepth 100000

theorem cellsDeed19 : Tryd.prog.cellsOf 52 = 9 := by kernel_rfl
theorem cellsBind19 : Tryd.prog.cellsOf 25 = 5 := by kernel_rfl
theorem cellsAddr19 : Tryd.prog.cellsOf 30 = 2 := by kernel_rfl
theorem cellsInt19 : Tryd.prog.cellsOf 3 = 1 := by kernel_rfl
theorem cellsString19 : Tryd.prog.cellsOf 9 = 1 := by kernel_rfl
theorem ilist_of {α : Type} {R : Nat → α → Prop} : ∀ (n : Nat), (∀ i, i < n → ∃ p, R i p) → ∃ L : List α, L.length = n ∧ ∀ j (h : j < L.length), R j L[j]
  | 0, _ => ⟨[], rfl, fun j h => absurd h (by simp)⟩
  | n + 1, h => by
    obtain ⟨L, hl, hr⟩ := ilist_of n fun i hi => h i (by omega)
    obtain ⟨p, hp⟩ := h n (by omega)
    refine ⟨L ++ [p], by simp [hl], fun j hj => ?_⟩
    by_cases e : j < L.length
    · rw [List.getElem_append_left e]; exact hr j e
    · have : j = n := by simp at hj; omega
      subst this
      rw [List.getElem_append_right (by omega)]
      simpa [hl] using hp
section
variable {H : Type} {enc : TypeId × Value → H} {W : World}
/-- a deed's nine cells -/
theorem ideed_of {base n : Nat} {held : Bool} {cs : List Value} {x : DataW H × List MemPlace} (hl : cs.length = 9)
    (h : DataW.trod enc Tryd.prog W base (fun _ => true) held n 52 cs = some x) : ∃ d : Ix.Deed, cs = ddC d := by
  obtain ⟨xs, m, _, _, _, hlen, hg⟩ := DataW.trod_struct Tryd.underlying52 h
  match xs, hlen with
  | [y0, y1, y2, y3], _ =>
    match cs, hl with
    | [c0, c1, c2, c3, c4, c5, c6, c7, c8], _ =>
      have g0 := hg 0 _ rfl
      have g1 := hg 1 _ rfl
      have g2 := hg 2 _ rfl
      have g3 := hg 3 _ rfl
      change DataW.trod enc Tryd.prog W base (fun _ => true) held m 3 (List.take (Tryd.prog.cellsOf 3) (List.drop 0 [c0, c1, c2, c3, c4, c5, c6, c7, c8])) = some y0 at g0
      change DataW.trod enc Tryd.prog W base (fun _ => true) held m 25 (List.take (Tryd.prog.cellsOf 25) (List.drop 1 [c0, c1, c2, c3, c4, c5, c6, c7, c8])) = some y1 at g1
      change DataW.trod enc Tryd.prog W base (fun _ => true) held m 3 (List.take (Tryd.prog.cellsOf 3) (List.drop 6 [c0, c1, c2, c3, c4, c5, c6, c7, c8])) = some y2 at g2
      change DataW.trod enc Tryd.prog W base (fun _ => true) held m 30 (List.take (Tryd.prog.cellsOf 30) (List.drop 7 [c0, c1, c2, c3, c4, c5, c6, c7, c8])) = some y3 at g3
      rw [cellsInt19] at g0 g2
      rw [cellsBind19] at g1
      rw [cellsAddr19] at g3
      obtain ⟨a0, e0, -, -⟩ := DataW.trod_int Tryd.underlying3 g0
      obtain ⟨a6, e6, -, -⟩ := DataW.trod_int Tryd.underlying3 g2
      obtain rfl : c0 = .int .i64 a0 := by simpa using e0
      obtain rfl : c6 = .int .i64 a6 := by simpa using e6
      obtain ⟨bs, m1, _, _, _, blen, bg⟩ := DataW.trod_struct Tryd.underlying25 g1
      obtain ⟨ays, m2, _, _, _, alen, ag⟩ := DataW.trod_struct Tryd.underlying30 g3
      match bs, blen with
      | [z0, z1, z2, z3, z4], _ =>
        match ays, alen with
        | [u0, u1], _ =>
          have b0 := bg 0 _ rfl
          have b1 := bg 1 _ rfl
          have b2 := bg 2 _ rfl
          have b3 := bg 3 _ rfl
          have b4 := bg 4 _ rfl
          have d0 := ag 0 _ rfl
          have d1 := ag 1 _ rfl
          change DataW.trod enc Tryd.prog W base (fun _ => true) held m1 3 (List.take (Tryd.prog.cellsOf 3) (List.drop 0 [c1, c2, c3, c4, c5])) = some z0 at b0
          change DataW.trod enc Tryd.prog W base (fun _ => true) held m1 3 (List.take (Tryd.prog.cellsOf 3) (List.drop 1 [c1, c2, c3, c4, c5])) = some z1 at b1
          change DataW.trod enc Tryd.prog W base (fun _ => true) held m1 9 (List.take (Tryd.prog.cellsOf 9) (List.drop 2 [c1, c2, c3, c4, c5])) = some z2 at b2
          change DataW.trod enc Tryd.prog W base (fun _ => true) held m1 3 (List.take (Tryd.prog.cellsOf 3) (List.drop 3 [c1, c2, c3, c4, c5])) = some z3 at b3
          change DataW.trod enc Tryd.prog W base (fun _ => true) held m1 3 (List.take (Tryd.prog.cellsOf 3) (List.drop 4 [c1, c2, c3, c4, c5])) = some z4 at b4
          change DataW.trod enc Tryd.prog W base (fun _ => true) held m2 3 (List.take (Tryd.prog.cellsOf 3) (List.drop 0 [c7, c8])) = some u0 at d0
          change DataW.trod enc Tryd.prog W base (fun _ => true) held m2 3 (List.take (Tryd.prog.cellsOf 3) (List.drop 1 [c7, c8])) = some u1 at d1
          rw [cellsInt19] at b0 b1 b3 b4 d0 d1
          rw [cellsString19] at b2
          obtain ⟨a1, e1, -, -⟩ := DataW.trod_int Tryd.underlying3 b0
          obtain ⟨a2, e2, -, -⟩ := DataW.trod_int Tryd.underlying3 b1
          obtain ⟨a3, e3, -, -⟩ := DataW.trod_string Tryd.underlying9 b2
          obtain ⟨a4, e4, -, -⟩ := DataW.trod_int Tryd.underlying3 b3
          obtain ⟨a5, e5, -, -⟩ := DataW.trod_int Tryd.underlying3 b4
          obtain ⟨a7, e7, -, -⟩ := DataW.trod_int Tryd.underlying3 d0
          obtain ⟨a8, e8, -, -⟩ := DataW.trod_int Tryd.underlying3 d1
          obtain rfl : c1 = .int .i64 a1 := by simpa using e1
          obtain rfl : c2 = .int .i64 a2 := by simpa using e2
          obtain rfl : c3 = .string a3 := by simpa using e3
          obtain rfl : c4 = .int .i64 a4 := by simpa using e4
          obtain rfl : c5 = .int .i64 a5 := by simpa using e5
          obtain rfl : c7 = .int .i64 a7 := by simpa using e7
          obtain rfl : c8 = .int .i64 a8 := by simpa using e8
          exact ⟨⟨a0, ⟨a1, a2, a3, a4, a5⟩, a6, (a7, a8)⟩, rfl⟩
theorem open_ideed {base : Nat} {held : Bool} {r : Reach} {b0 : Nat} {v : Value} {d : DataW H} {p : List MemPlace} (hv : Value.okWide Tryd.prog W r b0 52 v) (h : DataW.Trod enc Tryd.prog W base (fun _ => true) held 52 v d p) :
    ∃ x : Ix.Deed, v = .agg (ddC x).toArray := by
  obtain ⟨cs, rfl, hsz⟩ := okWide_struct Tryd.underlying52 hv
  obtain ⟨fuel, hf⟩ := h
  have hl : cs.toList.length = 9 := by rw [Array.length_toList, hsz]; exact cellsDeed19
  obtain ⟨x, hx⟩ := ideed_of (cs := cs.toList) hl (by simpa [Value.cells] using hf)
  exact ⟨x, by rw [← hx]⟩
theorem open_ideeds {n : Nat} {held : Bool} {A : Option Addr} {len cap : Nat} {x : DataW H × List MemPlace} (h : DataW.trod enc Tryd.prog W 0 (fun _ => true) held n 22 [.slice A len cap] = some x) :
    ∃ L : List Ix.Deed, Dv W W.heap.size A len L := by
  rcases open_slice Tryd.underlying22 h with ⟨hcs, rfl⟩ | ⟨a, l, c, m, n', D, Pl, hcs, _, hlc, hm, hmm, rfl, hi⟩
  · simp at hcs
    obtain ⟨rfl, rfl, rfl⟩ := hcs
    exact ⟨[], rfl, fun h => absurd h (by omega)⟩
  · simp at hcs
    obtain ⟨rfl, rfl, rfl⟩ := hcs
    simp only [if_true] at hmm
    subst hmm
    by_cases hl0 : len = 0
    · subst hl0
      exact ⟨[], rfl, fun h => absurd h (by omega)⟩
    obtain ⟨b, off, spot⟩ := a
    have hsp : spot = none := by
      obtain ⟨cs', hc, _⟩ := hi 0 (by omega)
      rw [cellsDeed19] at hc
      obtain ⟨_, hl3, hcell⟩ := World.cells?_some hc
      have h0 := hcell 0 (by omega)
      rw [List.getElem?_eq_getElem (by omega)] at h0
      simpa [Addr.add] using World.cell?_spot h0
    subst hsp
    have ea (j k : Nat) : ((⟨b, off, none⟩ : Addr).add j).add k = ⟨b, off + j + k, none⟩ := by
      simp only [Addr.add]
      split <;> split <;> simp_all
    have hR : ∀ i, i < len → ∃ d : Ix.Deed, ∀ k, k < 9 → W.cell? ⟨b, off + i * 9 + k, none⟩ = (ddC d)[k]? := by
      intro i hil
      obtain ⟨cs', hc, ht⟩ := hi i (by omega)
      rw [cellsDeed19] at hc
      obtain ⟨_, hl3, hcell⟩ := World.cells?_some hc
      obtain ⟨d, rfl⟩ := ideed_of (W := W) hl3 ht
      exact ⟨d, fun k hk => by rw [← ea]; exact hcell k hk⟩
    obtain ⟨L, hL, hP⟩ := ilist_of len hR
    refine ⟨L, by rw [ddV_length, hL], fun h0 => ⟨b, off, rfl, ?_, fun j hj => ?_⟩⟩
    · refine World.block_lt_of_cell? W _ (u := .int .i64 L[0].kind) ((hP 0 (by omega) 0 (by omega)).trans rfl)
    · rw [ddV_length] at hj
      have hq : j / 9 < L.length := by omega
      have e := hP (j / 9) hq (j % 9) (by omega)
      rw [show off + j / 9 * 9 + j % 9 = off + j by omega, ← ddV_get L (j / 9) hq (j % 9) (by omega), show j / 9 * 9 + j % 9 = j by omega] at e
      rw [e, List.getElem?_eq_getElem (by rw [ddV_length]; exact hj)]
end
end Go.Proofs.YtcmhodimkpkmbaaDoor
end
section
namespace Go.Proofs.YtcmhodimkpkmbaaDoor
open Go.ChangeShapes Go.WideShapes Go.ChangeAt Go.RowKit

section
variable {H : Type} {enc : TypeId × Value → H} {P : Program}
theorem post_of_below {f : Func} {s : ChangeSpec} {apart fresh handsOn again : Bool} {W W' : World} {args : Array Value} {v : Value} {ds gs : List (DataW H)} {before pa pv : List MemPlace}
    (hW : DataW.Whole enc P f.params.toList s.vars apart W args.toList ds gs before)
    (hres : ∀ (b : Nat) (sp : Nat → Bool) (hd : Bool), DataW.TrodAll enc P W' b sp hd f.resultTypes.toList (v.resultList f.resultTypes.size) (s.fn H (ds ++ gs)).results [])
    (hargs : ∀ sp : Nat → Bool, (∀ p ∈ before, sp p.block = true) → DataW.TrodAll enc P W' 0 sp true f.params.toList args.toList (s.fn H (ds ++ gs)).args pa)
    (hvars : ∀ sp : Nat → Bool, (∀ p ∈ before, sp p.block = true) → DataW.TrodVars enc P W' sp s.vars (s.fn H (ds ++ gs)).vars pv)
    (hps : before = pa ++ pv) (hb : Below W.heap.size W W')
    (hok : ∀ (j : Nat) (t : TypeId) (r : Value), f.resultTypes[j]? = some t → (v.resultList f.resultTypes.size)[j]? = some r → Value.okWide P W' .any 0 t r) :
    s.post enc P f apart fresh handsOn again W args v W' := by
  have hlt : ∀ p ∈ before, p.block < W.heap.size := fun p hp => hW.lt p hp
  have hold : ∀ p ∈ before, (fun b => decide (b < W.heap.size)) p.block = true := fun p hp => by simpa using hlt p hp
  refine ⟨ds, gs, before, [], pa, pv, hW, hres _ _ _, hargs _ hold, hvars _ hold, World.keptBut_mono (fun p hp => ⟨hp, ?_⟩) (hb.frame (· ∈ before)), fun _ => ?_⟩
  · rw [hps, List.mem_append] at hp
    exact Or.inr hp
  · obtain ⟨_, _, _, _, _, hz, hn⟩ := hW
    refine ⟨hok, _, _, ([] ++ pa) ++ pv, ⟨[] ++ pa, pv, trodAll_append (hargs _ (fun _ _ => rfl)) (hres _ _ _), hvars _ (fun _ _ => rfl), rfl, ?_, ?_⟩, ?_⟩
    · intro b off hp
      have hin : MemPlace.cell b off ∈ before := by rw [hps]; simpa using hp
      rw [hb.frozen (hlt _ hin)]
      exact hz b off hin
    · intro ha
      have := hn ha
      rw [hps] at this
      simpa using this
    · intro p hp _
      rw [hps]
      simpa using hp
end

end Go.Proofs.YtcmhodimkpkmbaaDoor
end
section
namespace Go.Proofs.YtcmhodimkpkmbaaDoor
open Go.ChangeShapes Go.WideShapes Go.ChangeAt Go.RowKit

theorem gTab64Type : (Tryd.prog.globals[0]?).map (·.type) = some 92 := by kernel_rfl
theorem cellsTab64 : Tryd.prog.cellsOf 92 = 64 := by kernel_rfl
theorem cellsU8 : Tryd.prog.cellsOf 5 = 1 := by kernel_rfl
theorem table64_one {W : World} (h : laidMetH Tryd.prog [("math/bits.deBruijn64tab", Rows.laid_math_bits_deBruijn64tab)] W) : Tab64 W := by
  have h2 : laidMet Tryd.prog [("math/bits.deBruijn64tab", Lib.tabData .u8 db64)] W := h
  exact Lib.tabBelow_of_tabIs (Lib.tabIs_of_head (rest := []) gDb64 gTab64Type Tryd.underlying92 Tryd.underlying5 cellsU8 cellsTab64 h2)
end Go.Proofs.YtcmhodimkpkmbaaDoor
end
section
namespace Go.Proofs.YtcmhodimkpkmbaaDoor
open Go.ChangeShapes Go.WideShapes Go.ChangeAt Go.RowKit
set_option maxRecDepth 100000

/-- that the program's index is held against the document's -/
def LikeDoes : Prop := ∀ {own : Nat → Prop} {w : World} {cs : List Value} {S T : Ix.St} {rb : Nat}, Tab64 w → LIx own w cs S → RIx w rb T → Ix.Ok S → Ix.Ok T →
  Calls Tryd.prog 8 #[.agg cs.toArray, .pointer (some ⟨rb, 0, none⟩)] w fun e w' => e = .returned (.bool (sameI S T)) ∧ Below w.heap.size w w'
theorem same_self {S : Ix.St} (h : Ix.Ok S) : sameI S S = true := (sameI_iff h h).2 fun _ _ => rfl
theorem look_none {l : List Ix.Sc} {i : Int} (h : ∀ z ∈ l, z.1 ≠ i) : Ix.look l i = none := by
  cases hl : Ix.look l i with
  | none => rfl
  | some a => exact absurd rfl (h _ (look_mem hl))

set_option maxHeartbeats 16000000 in
theorem indexDoes_any (KL : LikeDoes) (A : Option Addr) (n c : Nat) (L : List Ix.Deed) (o i : Int) (hi : W64 i) (w : World) (ht : Tab64 w) (hL : Dv w w.heap.size A n L) :
    Calls Tryd.prog 3 #[.slice A n c, .int .i64 o, .int .i64 i] w fun e w' => e = .returned (.bool true) ∧ Below w.heap.size w w' := by
  have ka := ixAwake_any ixPrg ixTells ixP_zero (ixP_length _ _) w
  have HT := Lib.hid ht
  have HL := Lib.hid hL
  by_cases hn : 60 < n
  · have d1 : decide ((60 : Int) < (n : Int)) = true := decide_eq_true (by omega)
    clear hL ht
    go_enter Tryd.func3, Tryd.ntmps3
    go_wp2_with (go_at_call 5; (with_reducible refine ka.mono ?_); rintro e w1 ⟨rfl, hb1⟩)
    go_ret
    exact ⟨rfl, hb1⟩
  · have d1 : decide ((60 : Int) < (n : Int)) = false := decide_eq_false (by omega)
    clear hL ht
    obtain ⟨S, hS⟩ : ∃ S, S = Ix.made L := ⟨_, rfl⟩
    have HS : Hid (Ix.Ok S) := Lib.hid (by rw [hS]; exact Ix.ok_made L)
    have kL : ∀ {own : Nat → Prop} {W : World} {cs : List Value} {rb : Nat}, Tab64 W → LIx own W cs S → RIx W rb S → Calls Tryd.prog 8 #[.agg cs.toArray, .pointer (some ⟨rb, 0, none⟩)] W fun e w' => e = .returned (.bool true) ∧ Below W.heap.size W w' := fun h1 h2 h3 => by
      have h9 := KL h1 h2 h3 HS.out HS.out
      rwa [same_self HS.out] at h9
    obtain ⟨lo, hlo⟩ : ∃ lo, lo = Ix.look (Ix.see S o).sl i := ⟨_, rfl⟩
    have HLO := Lib.hid hlo
    have hz := ixP_zero
    obtain ⟨is9, his⟩ : ∃ b, b = lo.isSome := ⟨_, rfl⟩
    obtain ⟨⟨lk1, lk2⟩, hlk⟩ : ∃ a, a = lo.getD (0, 0) := ⟨_, rfl⟩
    have HIS := Lib.hid his
    have HLK := Lib.hid hlk
    have HI := Lib.hid hi
    have cA : ∀ {own : Nat → Prop} {W : World} {cs : List Value}, LIx own W cs S → Calls Tryd.prog 7 #[.agg cs.toArray, .int .i64 o, .int .i64 i] W fun e w' => e = .returned (.tuple #[adV (lk1, lk2), .bool is9]) ∧ Below W.heap.size W w' := fun h => by
      rw [hlk, his, hlo]
      exact lxAt_any o i HI.out h
    clear hlo his hlk hi
    have km : ∀ W, Below w.heap.size w W → Calls Tryd.prog 6 #[.slice A n c] W (MadeTo LIx S W) := fun W hb => by
      rw [hS]
      exact made_any ixPrg ixP_zero (ixP_length _ _) A n c L W ((Vs.below HL.out hb).mono hb.size) (by omega)
    clear hS
    go_enter Tryd.func3, Tryd.ntmps3
    go_upto_region 7 with (first
      | (go_at_call 5; (with_reducible refine ka.mono ?_); rintro e w1 ⟨rfl, hb1⟩; have HB1 := Lib.hid hb1; clear hb1 ka)
      | (go_at_call 6; (with_reducible refine (km _ HB1.out).mono ?_); rintro e w2 ⟨cs, own, rb, rfl, hR, ho, hx, hr, hb2⟩; have hv := var_set ixPrg (z0 := ixP Ix.st0 fun _ => .map none) (ixP_length _ _) hR; have HT1 := hv.1; have HS1 := hv.2.1; have HO1 := all_oneCell_toArray (ixPrg.one hR); obtain ⟨w3, hw3⟩ : ∃ w3, w3 = (w2.alloc (.cells (ixP Ix.st0 fun _ => .map none).toArray 35)).setCells w2.heap.size 0 cs := ⟨_, rfl⟩; have HW3 := Lib.hid hw3; have hv2 := hv.2.2; rw [← hw3] at hv2; have HXB := Lib.hid hv2.1; have HR3 := Lib.hid hv2.2.1; have HX3 := Lib.hid (hx.below hv2.2.2); have HB3 := Lib.hid (HB1.out.trans ((hb2.trans (hv2.2.2.mono hb2.size)).mono HB1.out.size)); clear km hw3 hv hv2 hb2 ho hx hr hR)
      | (refine wpList_store_mid (by rfl) 35 (.tmp 7) (.tmp 21) (by rfl) w2.heap.size 0 cs.toArray (by rfl) (by rfl) HT1 HS1 HO1 ?_; rw [List.toList_toArray, ← HW3.out])
      | (refine wpList_load_mid (by rfl) 35 (.tmp 7) (by rfl) w2.heap.size 0 (by rfl) cs _ HXB.out.range Tryd.underlying35 (by rfl) HS1 ?_)
      | (go_at_call 7; (with_reducible refine (cA HR3.out).mono ?_); rintro e w4 ⟨rfl, hb4⟩; have hb4a := hb4.alloc hb4.size (adO (lk1, lk2)); have HB4 := Lib.hid hb4a; have HA4 : Hid ((w4.alloc (adO (lk1, lk2))).heap[w4.heap.size]? = some (adO (lk1, lk2))) := Lib.hid (heap_alloc_new w4 _); clear hb4 hb4a cA))
    obtain ⟨w5, hw5⟩ : ∃ w5, w5 = w4.alloc (.cells #[.int .i64 lk1, .int .i64 lk2] 30) := ⟨_, rfl⟩
    have hb5 := HB4.out
    have ha5 := HA4.out
    try dsimp only [adO] at hb5 ha5
    rw [← hw5] at hb5 ha5 ⊢
    have HB5 := Lib.hid hb5
    have HBW : Hid (Below w.heap.size w w5) := Lib.hid (HB3.out.trans (hb5.mono HB3.out.size))
    have HX5B := Lib.hid (HXB.out.below hb5)
    have HR5 := Lib.hid (ixPrg.on HR3.out hb5)
    have HX5 := Lib.hid (HX3.out.below hb5)
    have HT5 := Lib.hid (HT.out.on HBW.out)
    have hc := fun j => cells_at (C := [.int .i64 lk1, .int .i64 lk2]) ha5 j
    have f0 : w5.cell? ⟨w4.heap.size, 0, none⟩ = some (.int .i64 lk1) := hc 0
    have f1 : w5.cell? ⟨w4.heap.size, 1, none⟩ = some (.int .i64 lk2) := hc 1
    have hlt := lt_of_at ha5
    obtain ⟨b9, hb9⟩ : ∃ b, b = w4.heap.size := ⟨_, rfl⟩
    rw [← hb9] at f0 f1 hlt ⊢
    have HF0 := Lib.hid f0
    have HF1 := Lib.hid f1
    have HLT := Lib.hid hlt
    clear hc hw5 hb9 hb5 ha5 f0 f1 hlt HB4 HA4 HXB HR3 HX3 HT1 HO1 hz HW3
    by_cases hr : o < 0 ∨ 15 < o
    · have HSE : Hid (Ix.see S o = Ix.sl0) := Lib.hid (by
        unfold Ix.see
        rw [if_neg (by unfold Ix.may; simp; omega)])
      have HN : Hid (lo = none) := Lib.hid (by rw [HLO.out, HSE.out]; rfl)
      obtain rfl : is9 = false := by rw [HIS.out, HN.out]; rfl
      have hl2 : ((lk1, lk2) : Ix.Ad) = (0, 0) := by rw [HLK.out, HN.out]; rfl
      obtain ⟨rfl, rfl⟩ : lk1 = 0 ∧ lk2 = 0 := ⟨congrArg Prod.fst hl2, congrArg Prod.snd hl2⟩
      have hq := ad_eql (0, 0) (0, 0)
      rw [show adB (0, 0) (0, 0) = true from adB_iff.2 rfl] at hq
      try dsimp only [adV] at hq
      clear hl2
      by_cases h1 : o < 0
      · have k1 : decide (o < 0) = true := decide_eq_true h1
        clear hr h1
        go_wp2_with (first
          | (refine wpList_load_mid (by rfl) 35 (.tmp 7) (by rfl) w2.heap.size 0 (by rfl) cs _ HX5B.out.range Tryd.underlying35 (by rfl) HS1 ?_)
          | (go_at_call 8; (with_reducible refine (kL HT5.out HR5.out HX5.out).mono ?_); rintro e w6 ⟨rfl, hb6⟩; have g0 := (hb6.cell (p := ⟨b9, 0, none⟩) HLT.out).trans HF0.out; have g1 := (hb6.cell (p := ⟨b9, 1, none⟩) HLT.out).trans HF1.out; have HB6 := Lib.hid (HBW.out.trans (hb6.mono HBW.out.size)); clear hb6))
        go_ret
        exact ⟨rfl, HB6.out⟩
      · have k1 : decide (o < 0) = false := decide_eq_false h1
        have k2 : decide (15 < o) = true := decide_eq_true (by omega)
        clear hr h1
        go_wp2_with (first
          | (refine wpList_load_mid (by rfl) 35 (.tmp 7) (by rfl) w2.heap.size 0 (by rfl) cs _ HX5B.out.range Tryd.underlying35 (by rfl) HS1 ?_)
          | (go_at_call 8; (with_reducible refine (kL HT5.out HR5.out HX5.out).mono ?_); rintro e w6 ⟨rfl, hb6⟩; have g0 := (hb6.cell (p := ⟨b9, 0, none⟩) HLT.out).trans HF0.out; have g1 := (hb6.cell (p := ⟨b9, 1, none⟩) HLT.out).trans HF1.out; have HB6 := Lib.hid (HBW.out.trans (hb6.mono HBW.out.size)); clear hb6))
        go_ret
        exact ⟨rfl, HB6.out⟩
    · have k1 : decide (o < 0) = false := decide_eq_false (by omega)
      have k2 : decide (15 < o) = false := decide_eq_false (by omega)
      obtain ⟨k, rfl⟩ : ∃ k : Nat, o = (k : Int) := ⟨o.toNat, by omega⟩
      have hk : k < 16 := by omega
      have HE : Hid (Ix.see S (k : Int) = S k) := Lib.hid (Ix.see_of9 hk)
      obtain ⟨H, hH, hrow⟩ := HX5.out
      have hcell : w5.cell? ⟨rb, k * 12 + 8, none⟩ = some (H k) := slot_range hH hk 8 _ rfl
      obtain ⟨Av, cv, hHk, hcv, hrows⟩ := hrow k hk
      rw [hHk] at hcell
      have HOK1 : Hid (Ix.Ok1 (S k)) := Lib.hid (by have h9 := ok_see HS.out (k : Int); rwa [HE.out] at h9)
      have HLO2 : Hid (lo = Ix.look (S k).sl i) := Lib.hid (by rw [← HE.out]; exact HLO.out)
      have HROWS := Lib.hid hrows
      have HRISE := Lib.hid HOK1.out.rise
      have HNL : Hid ((S k).sl.length ≤ 4097) := Lib.hid (ok_len HOK1.out)
      generalize (S k).sl = sl at *
      obtain ⟨n2, hn2⟩ : ∃ n2, n2 = sl.length := ⟨_, rfl⟩
      rw [← hn2] at hcell
      have HN2 := Lib.hid hn2
      have hk0 : (0 : Int) ≤ (k : Int) := by omega
      have hk1 : (k : Int) < 16 := by omega
      clear hn2 hH hrow hHk hcv hrows hr HOK1 HE HLO
      go_wp2_with fail
      go_loopw [56] (fun v wr => ∃ j : Nat, j ≤ n2 ∧ v = .int .i64 j ∧ Hid ((∀ z ∈ sl.take j, z.1 ≠ i) ∧ Below w5.heap.size w5 wr)) (fun v _ => n2 - (intOf v).toNat)
      case atStart => exact ⟨0, by omega, rfl, Lib.hid ⟨fun z hz => by simp at hz, Below.refl _ _⟩⟩
      case round =>
        obtain ⟨j, hj, rfl, HR⟩ := hrel
        have HBR := Lib.hid (HBW.out.trans (HR.out.2.mono HBW.out.size))
        have HB5R := Lib.hid HR.out.2
        have HBX := Lib.hid (HX5B.out.below HR.out.2)
        have HRR := Lib.hid (ixPrg.on HR5.out HR.out.2)
        have HXR := Lib.hid (HX5.out.below HR.out.2)
        have HTR := Lib.hid (HT.out.on HBR.out)
        have hf0 := (HR.out.2.cell (p := ⟨b9, 0, none⟩) HLT.out).trans HF0.out
        have hf1 := (HR.out.2.cell (p := ⟨b9, 1, none⟩) HLT.out).trans HF1.out
        have HG0 := Lib.hid hf0
        have HG1 := Lib.hid hf1
        have HLTR : Hid (b9 < wr.heap.size) := Lib.hid (Nat.lt_of_lt_of_le HLT.out HR.out.2.size)
        clear hf0 hf1
        by_cases hlt : j < n2
        · have hj2 : j < sl.length := by rw [← HN2.out]; exact hlt
          obtain ⟨g, off, cur, rfl, hg, -, hcells⟩ := HROWS.out (by omega)
          have hgl := (Array.getElem?_eq_some_iff.1 hg).1
          have hcel : ∀ x (hx : x < (scV sl).length), wr.cell? ⟨g, off + x, none⟩ = some (scV sl)[x] := fun x hx => (World.cell?_of_block (HR.out.2.block g hgl)).trans (hcells x hx)
          obtain ⟨v0, v1, v2⟩ := scV_get sl j hj2
          have q0 : wr.cell? ⟨g, off + j * 3, none⟩ = some (.int .i64 sl[j].1) := by
            have h9 := hcel (j * 3) (by rw [scV_length]; omega)
            rw [h9, ← v0, List.getElem?_eq_getElem]
          have q1 : wr.cell? ⟨g, off + j * 3 + 1, none⟩ = some (.int .i64 sl[j].2.1) := by
            have h9 := hcel (j * 3 + 1) (by rw [scV_length]; omega)
            rw [Nat.add_assoc, h9, ← v1, List.getElem?_eq_getElem]
          have q2 : wr.cell? ⟨g, off + j * 3 + 2, none⟩ = some (.int .i64 sl[j].2.2) := by
            have h9 := hcel (j * 3 + 2) (by rw [scV_length]; omega)
            rw [Nat.add_assoc, h9, ← v2, List.getElem?_eq_getElem]
          have hmem : sl[j] ∈ sl := List.getElem_mem hj2
          have HLM := Lib.hid (look_of_mem HRISE.out hmem)
          have HNX : Hid (sl[j].1 ≠ i → ∀ z ∈ sl.take (j + 1), z.1 ≠ i) := Lib.hid fun h z hz => by
            rw [List.take_succ_eq_append_getElem hj2] at hz
            rcases List.mem_append.1 hz with hz | hz
            · exact HR.out.1 z hz
            · rw [List.mem_singleton.1 hz]; exact h
          generalize sl[j] = z at *
          obtain ⟨z1, za, zb⟩ := z
          dsimp only at q0 q1 q2 HLM HNX
          have h9 := HNL.out
          rw [← HN2.out] at h9
          clear hj2 hg hgl hcells hcel v0 v1 v2 hmem hj hcell
          by_cases hz : z1 = i
          · have kz : (z1 == i) = true := by simp [hz]
            have HL2 : Hid (lo = some (za, zb)) := Lib.hid (by rw [HLO2.out, ← hz]; exact HLM.out)
            obtain rfl : is9 = true := by rw [HIS.out, HL2.out]; rfl
            have hl2 : ((lk1, lk2) : Ix.Ad) = (za, zb) := by rw [HLK.out, HL2.out]; rfl
            obtain ⟨rfl, rfl⟩ : lk1 = za ∧ lk2 = zb := ⟨congrArg Prod.fst hl2, congrArg Prod.snd hl2⟩
            have hq := ad_eql (lk1, lk2) (lk1, lk2)
            rw [show adB (lk1, lk2) (lk1, lk2) = true from adB_iff.2 rfl] at hq
            try dsimp only [adV] at hq
            obtain ⟨wy, hwy⟩ : ∃ wy, wy = wr.alloc (.cells #[.int .i64 z1, .int .i64 lk1, .int .i64 lk2] 49) := ⟨_, rfl⟩
            have hby : Below wr.heap.size wr wy := by rw [hwy]; exact (Below.refl _ wr).alloc (Nat.le_refl _) _
            have hzy : wy.heap[wr.heap.size]? = some (.cells #[.int .i64 z1, .int .i64 lk1, .int .i64 lk2] 49 (0, 0)) := by rw [hwy]; exact heap_alloc_new wr _
            have HZY := Lib.hid hzy
            have HBY := Lib.hid (HBR.out.trans (hby.mono HBR.out.size))
            have HBXY := Lib.hid (HBX.out.below hby)
            have HRY := Lib.hid (ixPrg.on HRR.out hby)
            have HXY := Lib.hid (HXR.out.below hby)
            have HTY := Lib.hid (HT.out.on HBY.out)
            have HG0Y := Lib.hid ((hby.cell (p := ⟨b9, 0, none⟩) HLTR.out).trans HG0.out)
            have HG1Y := Lib.hid ((hby.cell (p := ⟨b9, 1, none⟩) HLTR.out).trans HG1.out)
            have HLTY : Hid (b9 < wy.heap.size) := Lib.hid (Nat.lt_of_lt_of_le HLTR.out hby.size)
            obtain ⟨y0, y1, y2⟩ := cells3 hzy
            clear hl2 hby hzy hz
            go_upto_region 12 with fail
            rw [← hwy]
            clear hwy
            go_wp2_with (first
              | (refine wpList_load_mid (by rfl) 35 (.tmp 7) (by rfl) w2.heap.size 0 (by rfl) cs _ HBXY.out.range Tryd.underlying35 (by rfl) HS1 ?_)
              | (go_at_call 8; (with_reducible refine (kL HTY.out HRY.out HXY.out).mono ?_); rintro e w6 ⟨rfl, hb6⟩; have g0 := (hb6.cell (p := ⟨b9, 0, none⟩) HLTY.out).trans HG0Y.out; have g1 := (hb6.cell (p := ⟨b9, 1, none⟩) HLTY.out).trans HG1Y.out; have HB6 := Lib.hid (HBY.out.trans (hb6.mono HBY.out.size)); obtain ⟨x0, x1, x2⟩ := cells3 ((hb6.block _ (lt_of_at HZY.out)).trans HZY.out); clear hb6 y0 y1 y2))
            go_ret
            exact ⟨rfl, HB6.out⟩
          · have kz : (z1 == i) = false := by simpa using hz
            have HN2X := Lib.hid (HNX.out hz)
            clear hz
            go_wp2_with fail
            go_roundw
            case rel => exact ⟨j + 1, by omega, by go_num, Lib.hid ⟨HN2X.out, HB5R.out.alloc HB5R.out.size _⟩⟩
            case measure => simp [intOf]; omega
        · obtain rfl : j = n2 := by omega
          have d9 : decide ((j : Int) < (j : Int)) = false := by simp
          have HN : Hid (lo = none) := Lib.hid (by
            rw [HLO2.out]
            exact look_none fun z hz => HR.out.1 z (by rw [List.take_of_length_le (by rw [← HN2.out]; exact Nat.le_refl _)]; exact hz))
          obtain rfl : is9 = false := by rw [HIS.out, HN.out]; rfl
          clear hlt hj
          go_wp2_with (first
            | (refine wpList_load_mid (by rfl) 35 (.tmp 7) (by rfl) w2.heap.size 0 (by rfl) cs _ HBX.out.range Tryd.underlying35 (by rfl) HS1 ?_)
            | (go_at_call 8; (with_reducible refine (kL HTR.out HRR.out HXR.out).mono ?_); rintro e w6 ⟨rfl, hb6⟩; have HB6 := Lib.hid (HBR.out.trans (hb6.mono HBR.out.size)); clear hb6))
          go_ret
          exact ⟨rfl, HB6.out⟩
end Go.Proofs.YtcmhodimkpkmbaaDoor
end
section
namespace Go.Proofs.YtcmhodimkpkmbaaDoor
open Go.ChangeShapes Go.WideShapes Go.ChangeAt Go.RowKit

theorem indexDoes_walk (A : Option Addr) (n c : Nat) (L : List Ix.Deed) (o i : Int) (W : World) (hL : Dv W W.heap.size A n L) (_ : -9223372036854775808 ≤ o) (_ : o ≤ 9223372036854775807) (h1 : -9223372036854775808 ≤ i) (h2 : i ≤ 9223372036854775807) (ht : Tab64 W) :
    Calls Tryd.prog 3 #[.slice A n c, .int .i64 o, .int .i64 i] W fun e W' => e = .returned (.bool true) ∧ Below W.heap.size W W' :=
  indexDoes_any like_any A n c L o i (WalkArith.wf_i64 (by omega)) W ht hL
end Go.Proofs.YtcmhodimkpkmbaaDoor
end
section
namespace Go.Proofs.YtcmhodimkpkmbaaDoor.indexDoes
open Go.ChangeShapes Go.WideShapes Go.ChangeAt Go.RowKit Go.WideMaps
set_option linter.unusedVariables false
theorem own : ownKnob Tryd.prog.godebug = none := by kernel_rfl
theorem laidOut : laidOutB Tryd.prog = true := by kernel_rfl
theorem table {W : World} (h : laidMetH Tryd.prog Rows.indexDoesRow.laid W) : Tab64 W := by
  have h1 := h.filter (fun x => x.1 == "math/bits.deBruijn64tab")
  exact table64_one h1

set_option maxRecDepth 100000 in
/-- What the walk gives, for every argument and every world that holds the listed tables. -/
theorem contract (H : Type) (enc : TypeId × Value → H) (W : World) (base : Nat) (args : Array Value) (ds gs : List (DataW H)) (before : List MemPlace)
    (hval0 : ∀ (j : Nat) t v, Tryd.f3.params[j]? = some t → args[j]? = some v → Value.okWide Tryd.prog W .any base t v)
    (hW : DataW.Whole enc Tryd.prog Tryd.f3.params.toList Rows.indexDoesSpec.vars false W args.toList ds gs before)
    (hsz0 : (DataW.weightsEach Tryd.prog (Tryd.f3.params.toList ++ (OpenSpec.ofChange Rows.indexDoesSpec).bare.plain.varTypes Tryd.prog) (ds ++ gs)).all (· ≤ reachBytes) = true) (hL : laidMetH Tryd.prog Rows.indexDoesRow.laid W) :
    Calls Tryd.prog 3 args W fun e W' => ∃ v, e = .returned v ∧ Rows.indexDoesSpec.post enc Tryd.prog Tryd.f3 false true false false W args v W' := by
  have hval := hval0
  have hW' := hW
  obtain ⟨p, q, hA0, hV, rfl, hfz, hnd⟩ := hW
  have hA : DataW.TrodAll enc Tryd.prog W 0 (fun _ => true) true Tryd.f3.params.toList args.toList ds p := hA0
  rw [Tryd.params3] at hA hval hsz0
  obtain ⟨v0, vs0, d0, ds0, p0, q0, hargs, rfl, rfl, h0, r0⟩ := trodAll_cons hA
  obtain ⟨v1, vs1, d1, ds1, p1, q1, rfl, rfl, rfl, h1, r1⟩ := trodAll_cons r0
  obtain ⟨v2, vs2, d2, ds2, p2, q2, rfl, rfl, rfl, h2, r2⟩ := trodAll_cons r1
  obtain ⟨rfl, rfl, rfl⟩ := trodAll_nil r2
  obtain rfl : args = #[v0, v1, v2] := by cases args; simp_all
  obtain ⟨rfl, rfl⟩ := trodVars_none hV
  have hsz : (DataW.weightsEach Tryd.prog [22, 3, 3] [d0, d1, d2]).all (· ≤ reachBytes) = true := hsz0
  obtain ⟨A0, n0, c0, rfl⟩ := okWide_slice Tryd.underlying22 (hval 0 22 v0 rfl rfl)
  have k0 := h0
  have lt0 : ∀ x ∈ p0, x.block < W.heap.size := by obtain ⟨m, hm⟩ := k0; exact DataW.trod_lt m _ _ _ hm
  obtain ⟨l0, b0⟩ : ∃ L, Dv W W.heap.size A0 n0 L := by
    obtain ⟨fuel, hf⟩ := h0
    exact open_ideeds hf
  obtain ⟨a1, rfl, rfl, rfl, w1⟩ := open_int Tryd.underlying3 (hval 1 3 v1 rfl rfl) h1
  obtain ⟨a2, rfl, rfl, rfl, w2⟩ := open_int Tryd.underlying3 (hval 2 3 v2 rfl rfl) h2
  clear hA0 hval0
  refine (indexDoes_walk A0 n0 c0 l0 a1 a2 W b0 (bounds_i64 w1).1 (bounds_i64 w1).2 (bounds_i64 w2).1 (bounds_i64 w2).2 (table hL)).mono fun e W' ⟨he, bel⟩ => ?_
  subst he
  exact ⟨_, rfl, _, _, _, [], _, [], hW', trodAll_mk1 (shut_bool Tryd.underlying4 _), (trodAll_cons_mk (Below.trod laidOut (by kernel_rfl) (of_decide_eq_true (by kernel_rfl)) k0 bel lt0) (trodAll_cons_mk (shut_int Tryd.underlying3 w1) (trodAll_cons_mk (shut_int Tryd.underlying3 w2) trodAll_mk0))), rfl, bel.frame _, fun h => by cases h⟩

theorem laid_met (os : Os) : laidMetH Tryd.prog Rows.indexDoesRow.laid ((World.doorLaid Tryd.prog 400 os).forCall (fun _ _ => 0) ⟨#[], #[.slice none 0 0, .int .i64 0, .int .i64 0], []⟩).memory :=
  laidMet_of_run' 8 (by kernel_rfl) (by kernel_rfl)
theorem reads (os : Os) {H : Type} (enc : TypeId × Value → H) : ∃ places, DataW.whole enc Tryd.prog ((World.doorLaid Tryd.prog 400 os).forCall (fun _ _ => 0) ⟨#[], #[.slice none 0 0, .int .i64 0, .int .i64 0], []⟩).memory Tryd.f3.params.toList Rows.indexDoesSpec.vars false (#[.slice none 0 0, .int .i64 0, .int .i64 0] : Array Value).toList 8 = some ([.nil, .lit (.int .i64 0), .lit (.int .i64 0)], [], places) :=
  ⟨[], by kernel_rfl⟩

set_option maxRecDepth 100000 in
theorem lifted (os : Os) (started : os.Started) (H : Type) (enc : TypeId × Value → H) (F : Stop.Interp) :
    ReturnsInHanded {} Tryd.checked os 3 .any ((OpenSpec.ofChange Rows.indexDoesSpec).preRow enc Tryd.prog Tryd.f3 Rows.indexDoesRow.domain false Rows.indexDoesRow.laid) (((OpenSpec.ofChange Rows.indexDoesSpec).at F).post enc Tryd.prog Tryd.f3 false true false false) := by
  obtain ⟨places, hx⟩ := reads os enc
  refine returnsInHanded_of_row (C := Tryd.checked) (s := OpenSpec.ofChange Rows.indexDoesSpec) own started (by kernel_rfl) Tryd.func3
    (witness_row_at (enc := enc) (C := Tryd.checked) false (World.doorLaid Tryd.prog 400 os) #[.slice none 0 0, .int .i64 0, .int .i64 0] rfl (by kernel_rfl) (by kernel_rfl) (by kernel_rfl)
      (OpenSpec.preRow_of_cond 8 hx (by kernel_rfl) (fun k hk => by cases hk) (by kernel_rfl) (laid_met os))) ?_
  intro W base args ds gs before hval hW _ _ hsz hL _ _
  exact contract H enc W base args ds gs before hval hW hsz hL

theorem said : Rows.IndexDoesSaid :=
  OpenClaim.holds_of_cond 3 Tryd.f3 rfl rfl rfl rfl rfl rfl rfl ⟨rfl, rfl, rfl, rfl, rfl⟩ rfl rfl rfl rfl rfl (by kernel_rfl) Tryd.func3 (by kernel_rfl)
    (of_decide_eq_true (by kernel_rfl)) (by unfold Func.isWrapper; first | (rw [if_pos (by decide +kernel)]; kernel_rfl) | (rw [if_neg (by decide +kernel)]; exact ⟨rfl, rfl⟩))
    (fun os started H enc _ F => by rw [OpenClaim.pre_eq_preRow]; exact lifted os started H enc F)

/-- No parameter wants a stand-in; the program's own looks: what the card asks. -/
theorem plain (f : FuncId) (fn : Func) (hf : Tryd.pinned.checked.prog.funcNamed "spence/spencelaw19.IndexDoes" = some f) (hfn : Tryd.pinned.checked.prog.funcs[f]? = some fn) :
    false = Tryd.pinned.checked.prog.looks [] ∧ ∀ (j : Nat) t, fn.params[j]? = some t → Tryd.pinned.checked.prog.wantsStandIn t = false := by
  obtain rfl : f = 3 := Option.some.inj ((show Tryd.prog.funcNamed "spence/spencelaw19.IndexDoes" = some 3 by kernel_rfl).symm.trans hf) |>.symm
  obtain rfl : fn = Tryd.f3 := (Option.some.inj (Tryd.func3.symm.trans hfn)).symm
  refine ⟨by kernel_rfl, fun j t ht => ?_⟩
  rw [Tryd.params3] at ht
  have hm : t ∈ (#[22, 3, 3] : Array TypeId) := Array.mem_of_getElem? ht
  have hall : ∀ u ∈ (#[22, 3, 3] : Array TypeId), Tryd.prog.wantsStandIn u = false := by
    intro u hu
    simp only [List.mem_toArray, List.mem_cons, List.not_mem_nil, or_false] at hu
    rcases hu with rfl | rfl | rfl
    all_goals kernel_rfl
  exact hall t hm

/-- ████ THE CARD ████ -/
theorem proved : Rows.IndexDoesCardSaid :=
  Claim7.holds_tied_plain_at .later [] _ _ _ _ said (fun _ h => by cases h) (by kernel_rfl) (fun _ h => by cases h) indexDoes_row_tie rfl ⟨rfl, rfl⟩ (by kernel_rfl) rfl plain (by kernel_rfl)
end Go.Proofs.YtcmhodimkpkmbaaDoor.indexDoes
end
