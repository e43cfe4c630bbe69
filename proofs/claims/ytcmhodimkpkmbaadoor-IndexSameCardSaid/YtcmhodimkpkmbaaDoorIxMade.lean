/-
  Made: a program's index and the document's behind some deeds, by what a program's index owes.
-/
import Derived.Test.YtcmhodimkpkmbaaDoorIxDeeds
import Derived.Test.YtcmhodimkpkmbaaDoorIxPiece
import Derived.Test.YtcmhodimkpkmbaaDoorIxForget
namespace Go.Proofs.YtcmhodimkpkmbaaDoor
open Go.ChangeShapes Go.WideShapes Go.ChangeAt Go.RowKit
set_option maxRecDepth 100000

theorem below_cells {B : Nat} {a : World} : ∀ (vs : List Value) (b o : Nat) (w : World), B ≤ b → Below B a w → Below B a (w.setCells b o vs)
  | [], _, _, _, _, h => h
  | v :: r, b, o, w, hb, h => by
    rw [World.setCells]
    exact below_cells r b (o + 1) _ hb (h.setCell hb v)
/-- a variable that holds an index -/
def IxBox (W : World) (b : Nat) (cs : List Value) : Prop := W.heap[b]? = some (.cells cs.toArray 35 (0, 0))
theorem IxBox.range {W : World} {b : Nat} {cs : List Value} (h : IxBox W b cs) : W.rangeAt b 0 cs := fun j v hj => by
  rw [Nat.zero_add, cells_at h]
  exact hj
theorem IxBox.there {W : World} {b n : Nat} {cs : List Value} (h : IxBox W b cs) (hn : cs.length = n) : W.there b 0 n := fun j hj => by
  rw [Nat.zero_add, cells_at h]
  exact ⟨by simp [hn, hj], cells_frozen h j⟩
theorem IxBox.put {W : World} {b : Nat} {cs cs' : List Value} (h : IxBox W b cs) (hl : cs'.length = cs.length) : IxBox (W.setCells b 0 cs') b cs' := by
  have h1 : W.heap[b]? = some (.cells ([] ++ cs ++ []).toArray 35 (0, 0)) := by
    rw [List.nil_append, List.append_nil]
    exact h
  have h2 := setCells_mid b 35 cs' cs [] [] W hl h1
  rw [List.nil_append, List.append_nil] at h2
  exact h2
/-- the document's index as nobody set it -/
def ix0 : List Value := ixC Ix.st0 fun _ => .slice none 0 0
theorem ix0_zero (W : World) : (zeroValue 47).run Tryd.prog W = .ok (.agg ix0.toArray) W := by kernel_rfl
theorem RIx.new (W : World) : RIx (W.alloc (.cells ix0.toArray 47)) W.heap.size Ix.st0 := ⟨_, heap_alloc_new W _, fun _ _ => SRow.nil _ _⟩
theorem RIx.grown {W W' : World} {rb : Nat} {S : Ix.St} (h : RIx W rb S) (hs : W.heap.size ≤ W'.heap.size) (hb : ∀ i, i < W.heap.size → W'.heap[i]? = W.heap[i]?) : RIx W' rb S := h.frame hs hb
/-- what Made answers: the two, and by which blocks -/
def MadeTo (R : (Nat → Prop) → World → List Value → Ix.St → Prop) (S : Ix.St) (w : World) (e : Ending) (W : World) : Prop :=
  ∃ cs own rb, e = .returned (.tuple #[.agg cs.toArray, .pointer (some ⟨rb, 0, none⟩)]) ∧ R own W cs S ∧ (∀ i, own i → w.heap.size ≤ i ∧ i ≠ rb) ∧ RIx W rb S ∧ w.heap.size ≤ rb ∧ Below w.heap.size w W
/-- where the two stand while deeds are done: the variable, the result's own cell, the two -/
structure MSt (R : (Nat → Prop) → World → List Value → Ix.St → Prop) (w : World) (z0 : List Value) (rb : Nat) (cs : List Value) (own : Nat → Prop) (S : Ix.St) (W : World) : Prop where
  box : IxBox W (rb + 1) cs
  res : IxBox W w.heap.size z0
  r : R own W cs S
  own_ : ∀ i, own i → w.heap.size < i ∧ i ≠ rb ∧ i ≠ rb + 1
  rix : RIx W rb S
  below : Below w.heap.size w W
  lt : w.heap.size < rb
theorem IxBox.lt {W : World} {b : Nat} {cs : List Value} (h : IxBox W b cs) : b < W.heap.size := (Array.getElem?_eq_some_iff.1 h).1
theorem IxBox.below {W W' : World} {b : Nat} {cs : List Value} (h : IxBox W b cs) (hb : Below W.heap.size W W') : IxBox W' b cs := (hb.block b h.lt).trans h
section
variable {R : (Nat → Prop) → World → List Value → Ix.St → Prop} {sz : Nat} {w W W1 W3 : World} {z0 cs cs' : List Value} {rb : Nat} {own own' : Nat → Prop} {S S' : Ix.St}
theorem MSt.on (K : IxPrg R sz) (h : MSt R w z0 rb cs own S W) (hb : Below W.heap.size W W1) : MSt R w z0 rb cs own S W1 :=
  ⟨h.box.below hb, h.res.below hb, K.frame h.r fun i hi => hb.block i (K.lt h.r hi), h.own_, h.rix.below hb, h.below.trans (hb.mono h.below.size), h.lt⟩
theorem MSt.there (K : IxPrg R sz) (h : MSt R w z0 rb cs own S W) (hb : Below W.heap.size W W1) : W1.there (rb + 1) 0 sz := (h.box.below hb).there (K.len h.r)
/-- the variable is another one, and then the document's -/
theorem MSt.next (K : IxPrg R sz) (h : MSt R w z0 rb cs own S W) (hb : Below W.heap.size W W1) (hr : R own' W1 cs' S') (ho : ∀ i, own' i → own i ∨ W.heap.size ≤ i)
    (hg : (W1.setCells (rb + 1) 0 cs').grownBy W3 (some rb)) (hx : RIx W3 rb S') : MSt R w z0 rb cs' own' S' W3 := by
  have hl : cs'.length = cs.length := (K.len hr).trans (K.len h.r).symm
  have hbx := h.box.below hb
  have hput := hbx.put hl
  have hel := Else.setCells cs' 0 W1 (Else.refl (rb + 1) W1)
  have hbl := h.box.lt
  have hlt := h.lt
  have hsame : ∀ i, i < W1.heap.size → i ≠ rb → i ≠ rb + 1 → W3.heap[i]? = W1.heap[i]? := fun i hi h1 h2 => (hg.block i (by rw [hel.size]; exact hi) (fun e => h1 (Option.some.inj e))).trans (hel.same i h2)
  have hown : ∀ i, own' i → w.heap.size < i ∧ i ≠ rb ∧ i ≠ rb + 1 := fun i hi => by
    rcases ho i hi with h1 | h1
    · exact h.own_ i h1
    · omega
  refine ⟨(hg.block (rb + 1) hput.lt (fun e => by have := Option.some.inj e; omega)).trans hput, (hsame _ (h.res.below hb).lt (by omega) (by omega)).trans (h.res.below hb), K.frame hr fun i hi => hsame i (K.lt hr hi) (hown i hi).2.1 (hown i hi).2.2, hown, hx, ?_, hlt⟩
  have hb1 : Below w.heap.size w W1 := h.below.trans (hb.mono h.below.size)
  have hb2 : Below w.heap.size w (W1.setCells (rb + 1) 0 cs') := below_cells cs' (rb + 1) 0 W1 (by omega) hb1
  exact hb2.grown hg hb2.size (fun q e => by have := Option.some.inj e; omega)
end
theorem made_mid {R : (Nat → Prop) → World → List Value → Ix.St → Prop} {sz : Nat} {w W W1 : World} {z0 cs cs' : List Value} {rb : Nat} {own own' : Nat → Prop} {S S' : Ix.St} (K : IxPrg R sz) (h : MSt R w z0 rb cs own S W) (hr : R own' W1 cs' S') (hb : Below W.heap.size W W1) :
    W1.there (rb + 1) 0 cs'.toArray.size ∧ (Tryd.prog.info? 35).map (·.size) = some cs'.toArray.size ∧ (∀ i, i ≠ rb + 1 → (W1.setCells (rb + 1) 0 cs').heap[i]? = W1.heap[i]?) ∧ RIx (W1.setCells (rb + 1) 0 cs') rb S := by
  have hs1 : cs'.toArray.size = sz := by simpa using K.len hr
  have hel := Else.setCells cs' 0 W1 (Else.refl (rb + 1) W1)
  refine ⟨by rw [hs1]; exact h.there K hb, by rw [hs1]; exact K.size, hel.same, ?_⟩
  exact (h.rix.below hb).other (by omega) (h.box.below hb) (by decide) hel.same
theorem made_end {R : (Nat → Prop) → World → List Value → Ix.St → Prop} {sz : Nat} {w W : World} {z0 cs : List Value} {rb : Nat} {own : Nat → Prop} {S : Ix.St} (K : IxPrg R sz) (h : MSt R w z0 rb cs own S W) (hzl : z0.length = sz) :
    W.there w.heap.size 0 cs.toArray.size ∧ (Tryd.prog.info? 35).map (·.size) = some cs.toArray.size ∧ (W.setCells w.heap.size 0 cs).rangeAt w.heap.size 0 cs ∧ MadeTo R S w (.returned (.tuple #[.agg cs.toArray, .pointer (some ⟨rb, 0, none⟩)])) (W.setCells w.heap.size 0 cs) := by
  have hs1 : cs.toArray.size = sz := by simpa using K.len h.r
  have hel := Else.setCells cs 0 W (Else.refl w.heap.size W)
  have hlt := h.lt
  refine ⟨by rw [hs1]; exact h.res.there hzl, by rw [hs1]; exact K.size, (h.res.put ((K.len h.r).trans hzl.symm)).range, cs, own, rb, rfl, ?_, fun i hi => ?_, ?_, by omega, ?_⟩
  · exact K.frame h.r fun i hi => hel.same i (by have := h.own_ i hi; omega)
  · have := h.own_ i hi
    omega
  · exact h.rix.other (by omega) h.res (by decide) hel.same
  · exact below_cells cs _ 0 W (Nat.le_refl _) h.below
theorem res_made {U : World} {tm : Array Value} {b : Nat} {d : List Value} {v : Value} (hd : (Tryd.prog.info? 35).map (·.size) = some d.length) (h4 : tm.getD 2 undef = .pointer (some ⟨b, 0, none⟩)) (h3 : tm.getD 3 undef = v) (hr : U.rangeAt b 0 d) :
    (results Tryd.f6 tm).run Tryd.prog U = .ok (.tuple #[.agg d.toArray, v]) U := by
  have h5 : tm[2]?.getD undef = .pointer (some ⟨b, 0, none⟩) := by simpa using h4
  have h6 : tm[3]?.getD undef = v := by simpa using h3
  have hl := run_loadVar_mid (P := Tryd.prog) U b 0 35 d _ hr Tryd.underlying35 (by rfl) hd
  simp [results, Tryd.results6, h5, h6, asAddr, hl]
theorem made_start {R : (Nat → Prop) → World → List Value → Ix.St → Prop} {sz : Nat} {w w1 : World} {z0 d0 cs0 : List Value} {own0 : Nat → Prop} (K : IxPrg R sz) (hzl : z0.length = sz)
    (hrx : ∀ W : World, RIx (W.alloc (.cells d0.toArray 47)) W.heap.size Ix.st0) (hR : R own0 w1 cs0 Ix.st0) (ho : ∀ i, own0 i → (w.alloc (.cells z0.toArray 35)).heap.size ≤ i) (hb : Below (w.alloc (.cells z0.toArray 35)).heap.size (w.alloc (.cells z0.toArray 35)) w1) :
    ((w1.alloc (.cells d0.toArray 47)).alloc (.cells z0.toArray 35)).there (w1.heap.size + 1) 0 cs0.toArray.size ∧ (Tryd.prog.info? 35).map (·.size) = some cs0.toArray.size ∧
      MSt R w z0 w1.heap.size cs0 own0 Ix.st0 (((w1.alloc (.cells d0.toArray 47)).alloc (.cells z0.toArray 35)).setCells (w1.heap.size + 1) 0 cs0) := by
  have hl : cs0.length = sz := K.len hR
  have hs1 : cs0.toArray.size = sz := by simpa using hl
  have hsz1 : w.heap.size + 1 ≤ w1.heap.size := by have := hb.size; rwa [World.size_alloc] at this
  have hbx : IxBox ((w1.alloc (.cells d0.toArray 47)).alloc (.cells z0.toArray 35)) (w1.heap.size + 1) z0 := by
    have h9 := heap_alloc_new (w1.alloc (.cells d0.toArray 47)) (.cells z0.toArray 35)
    rw [World.size_alloc] at h9
    exact h9
  have hB : Below w1.heap.size w1 ((w1.alloc (.cells d0.toArray 47)).alloc (.cells z0.toArray 35)) := ((Below.refl _ w1).alloc (Nat.le_refl _) _).alloc (by simp) _
  have hel := Else.setCells cs0 0 _ (Else.refl (w1.heap.size + 1) ((w1.alloc (.cells d0.toArray 47)).alloc (.cells z0.toArray 35)))
  have hres : IxBox w1 w.heap.size z0 := (hb.block _ (by simp)).trans (heap_alloc_new w _)
  have hbw : Below w.heap.size w w1 := ((Below.refl _ w).alloc (Nat.le_refl _) (.cells z0.toArray 35)).trans (hb.mono (by simp))
  have hrix := (hrx w1).frame (W' := (w1.alloc (.cells d0.toArray 47)).alloc (.cells z0.toArray 35)) (by simp) (fun i hi => Below.heap_alloc _ _ i hi)
  refine ⟨by rw [hs1]; exact hbx.there hzl, by rw [hs1]; exact K.size, hbx.put (hl.trans hzl.symm), ?_, ?_, fun i hi => ?_, ?_, ?_, by omega⟩
  · exact (hel.same _ (by omega)).trans ((hB.block _ (by omega)).trans hres)
  · refine K.frame hR fun i hi => ?_
    have := K.lt hR hi
    exact (hel.same _ (by omega)).trans (hB.block _ this)
  · have h1 := K.lt hR hi
    have h2 := ho i hi
    rw [World.size_alloc] at h2
    omega
  · obtain ⟨H, h1, h2⟩ := hrix
    refine ⟨H, (hel.same _ (by omega)).trans h1, fun k hk => ?_⟩
    obtain ⟨A, c, e1, e2, e3⟩ := h2 k hk
    refine ⟨A, c, e1, e2, fun h0 => ?_⟩
    exact absurd h0 (by simp [Ix.st0, Ix.sl0])
  · exact below_cells cs0 _ 0 _ (by omega) (hbw.trans (hB.mono hbw.size))
set_option maxHeartbeats 8000000 in
theorem made_any {R : (Nat → Prop) → World → List Value → Ix.St → Prop} {sz : Nat} {z0 : List Value} (K : IxPrg R sz) (hz : ∀ W, (zeroValue 35).run Tryd.prog W = .ok (.agg z0.toArray) W) (hzl : z0.length = sz)
    (A : Option Addr) (n c : Nat) (L : List Ix.Deed) (w : World) (hL : Dv w w.heap.size A n L) (hn : n ≤ 60) :
    Calls Tryd.prog 6 #[.slice A n c] w (MadeTo R (Ix.made L) w) := by
  have hx0 := ix0_zero
  have HLN := Lib.hid hL.len
  have HLC := Lib.hid hL.2
  have HRX := Lib.hid (fun W => RIx.new W)
  generalize ix0 = d0 at *
  clear hL
  go_enter Tryd.func6, Tryd.ntmps6
  have HSZ := Lib.hid K.size
  have HK := Lib.hid K
  have HZL := Lib.hid hzl
  go_wp2_with (first
    | (go_at_call 13; (with_reducible refine (K.new _).mono ?_); rintro e w1 ⟨cs0, own0, rfl, hR0, hown0, hb0⟩; have HM0 := made_start (w := w) (z0 := z0) (d0 := d0) HK.out HZL.out HRX.out hR0 hown0 hb0; have HT0 := HM0.1; have HO0 := all_oneCell_toArray (K.one hR0))
    | (refine wpList_store_mid (by rfl) 35 (.tmp 4) (.tmp 9) (by rfl) (w1.heap.size + 1) 0 cs0.toArray (by rfl) (by rfl) HT0 HM0.2.1 HO0 ?_))
  have HMS := Lib.hid HM0.2.2
  clear hR0 hown0 hb0 HM0 HT0 HO0 hz hx0
  go_loopw [14] (fun i wr => ∃ (j : Nat) (cs : List Value) (own : Nat → Prop), j ≤ n ∧ i = .int .i64 j ∧ Hid (MSt R w z0 w1.heap.size cs own (Ix.made (L.take j)) wr)) (fun i _ => n - (intOf i).toNat)
  case atStart => exact ⟨0, cs0, own0, by omega, rfl, HMS⟩
  case round =>
    clear HMS
    obtain ⟨j, cs, own, hj, rfl, HM⟩ := hrel
    by_cases hlt : j < n
    · obtain ⟨b, off, rfl, hbl, hcells⟩ := HLC.out (by omega)
      have hjl : j < L.length := by rw [HLN.out]; exact hlt
      have hdl := ddV_length L
      have HRC : Hid (∀ q (hq : q < 9), wr.cell? ⟨b, off + (j * 9 + q), none⟩ = (ddC L[j])[q]?) := Lib.hid fun q hq => by
        have h1 := hcells (j * 9 + q) (by omega)
        have h2 := ddV_get L j hjl q hq
        rw [List.getElem?_eq_getElem (by omega)] at h2
        rw [← h2, ← h1]
        exact HM.out.below.cell (p := ⟨b, off + (j * 9 + q), none⟩) hbl
      have HTK : Hid (Ix.made (L.take (j + 1)) = Ix.deed (Ix.made (L.take j)) L[j]) := Lib.hid (by rw [List.take_succ_eq_append_getElem hjl, Ix.made_snoc])
      have HOK := Lib.hid (Ix.ok_made (L.take j))
      have HLE : Hid (∀ k, ((Ix.made (L.take j)) k).sl.length ≤ 100000) := Lib.hid fun k => by
        have h1 := Ix.made_len (L.take j) k
        rw [List.length_take] at h1
        omega
      generalize L[j] = d at *
      generalize Ix.made (L.take j) = St at *
      obtain ⟨kind, ⟨bo, bg, bt, bl, bk⟩, di, ⟨d1, d2⟩⟩ := d
      have r0 : wr.cell? ⟨b, off + j * 9, none⟩ = some (.int .i64 kind) := HRC.out 0 (by omega)
      have r1 : wr.cell? ⟨b, off + j * 9 + 1, none⟩ = some (.int .i64 bo) := HRC.out 1 (by omega)
      have r2 : wr.cell? ⟨b, off + j * 9 + 2, none⟩ = some (.int .i64 bg) := HRC.out 2 (by omega)
      have r3 : wr.cell? ⟨b, off + j * 9 + 3, none⟩ = some (.string bt) := HRC.out 3 (by omega)
      have r4 : wr.cell? ⟨b, off + j * 9 + 4, none⟩ = some (.int .i64 bl) := HRC.out 4 (by omega)
      have r5 : wr.cell? ⟨b, off + j * 9 + 5, none⟩ = some (.int .i64 bk) := HRC.out 5 (by omega)
      have r6 : wr.cell? ⟨b, off + j * 9 + 6, none⟩ = some (.int .i64 di) := HRC.out 6 (by omega)
      have r7 : wr.cell? ⟨b, off + j * 9 + 7, none⟩ = some (.int .i64 d1) := HRC.out 7 (by omega)
      have r8 : wr.cell? ⟨b, off + j * 9 + 8, none⟩ = some (.int .i64 d2) := HRC.out 8 (by omega)
      obtain ⟨wq, hwq⟩ : ∃ wq, wq = (wr.alloc (.cells #[.int .i64 kind, .int .i64 bo, .int .i64 bg, .string bt, .int .i64 bl, .int .i64 bk, .int .i64 di, .int .i64 d1, .int .i64 d2] 52)).alloc (.cells #[.int .i64 bo, .int .i64 bg, .string bt, .int .i64 bl, .int .i64 bk] 25) := ⟨_, rfl⟩
      have hbq : Below wr.heap.size wr wq := by rw [hwq]; exact ((Below.refl _ wr).alloc (Nat.le_refl _) _).alloc (by simp) _
      have hqd : wq.heap[wr.heap.size]? = some (.cells [.int .i64 kind, .int .i64 bo, .int .i64 bg, .string bt, .int .i64 bl, .int .i64 bk, .int .i64 di, .int .i64 d1, .int .i64 d2].toArray 52 (0, 0)) := by
        rw [hwq]
        exact (Below.heap_alloc _ _ _ (by simp)).trans (heap_alloc_new wr _)
      have hqb : wq.heap[wr.heap.size + 1]? = some (.cells [.int .i64 bo, .int .i64 bg, .string bt, .int .i64 bl, .int .i64 bk].toArray 25 (0, 0)) := by
        have h9 := heap_alloc_new (wr.alloc (.cells #[.int .i64 kind, .int .i64 bo, .int .i64 bg, .string bt, .int .i64 bl, .int .i64 bk, .int .i64 di, .int .i64 d1, .int .i64 d2] 52)) (.cells #[.int .i64 bo, .int .i64 bg, .string bt, .int .i64 bl, .int .i64 bk] 25)
        rw [World.size_alloc] at h9
        rw [hwq]
        exact h9
      have HDB : Hid (∀ W' : World, W'.heap[wr.heap.size]? = wq.heap[wr.heap.size]? → W'.heap[wr.heap.size + 1]? = wq.heap[wr.heap.size + 1]? →
          (W'.cell? ⟨wr.heap.size, 0, none⟩ = some (.int .i64 kind) ∧ W'.cell? ⟨wr.heap.size, 6, none⟩ = some (.int .i64 di) ∧ W'.cell? ⟨wr.heap.size, 7, none⟩ = some (.int .i64 d1) ∧ W'.cell? ⟨wr.heap.size, 8, none⟩ = some (.int .i64 d2)) ∧
          (W'.cell? ⟨wr.heap.size + 1, 0, none⟩ = some (.int .i64 bo) ∧ W'.cell? ⟨wr.heap.size + 1, 1, none⟩ = some (.int .i64 bg) ∧ W'.cell? ⟨wr.heap.size + 1, 2, none⟩ = some (.string bt) ∧ W'.cell? ⟨wr.heap.size + 1, 3, none⟩ = some (.int .i64 bl) ∧ W'.cell? ⟨wr.heap.size + 1, 4, none⟩ = some (.int .i64 bk))) := Lib.hid fun W' h1 h2 => by
        have h3 := h1.trans hqd
        have h4 := h2.trans hqb
        exact ⟨⟨(cells_at h3 0).trans rfl, (cells_at h3 6).trans rfl, (cells_at h3 7).trans rfl, (cells_at h3 8).trans rfl⟩, (cells_at h4 0).trans rfl, (cells_at h4 1).trans rfl, (cells_at h4 2).trans rfl, (cells_at h4 3).trans rfl, (cells_at h4 4).trans rfl⟩
      have HMQ := Lib.hid (HM.out.on K hbq)
      have HWQ := Lib.hid hwq
      have HBQ := Lib.hid hbq
      have HXR := Lib.hid HMQ.out.box.range
      have HXS : Hid ((Tryd.prog.info? 35).map (·.size) = some cs.length) := Lib.hid (by rw [K.len HM.out.r]; exact K.size)
      have HQZ : Hid (wr.heap.size + 2 = wq.heap.size ∧ w1.heap.size + 1 < wr.heap.size) := Lib.hid ⟨by rw [hwq]; simp, HM.out.box.lt⟩
      obtain ⟨⟨q0, q6, q7, q8⟩, p0, p1, p2, p3, p4⟩ := HDB.out wq rfl rfl
      have hjn : (j : Int) < (n : Int) := by omega
      clear hcells hwq hqd hqb hdl hjl hbl hbq
      by_cases k1 : kind = 1
      · have c1 : (kind == 1) = true := by simp [k1]
        have kp := K.piece bo bg di (d1, d2) HMQ.out.r HOK.out
        have HD : Hid (Ix.made (L.take (j + 1)) = Ix.pc St bo bg di (d1, d2)) := Lib.hid (by rw [HTK.out]; unfold Ix.deed; simp [k1])
        clear k1
        go_wp2_with (first
          | (rw [← HWQ.out]; refine wpList_load_mid (by rfl) 35 (.tmp 4) (by rfl) (w1.heap.size + 1) 0 (by rfl) cs _ HXR.out Tryd.underlying35 (by rfl) HXS.out ?_)
          | (go_at_call 10; (with_reducible refine kp.mono ?_); rintro e W1 ⟨cs', own', rfl, hR1, ho1, hb1⟩; have hmid := made_mid K HMQ hR1 hb1; have HT1 := hmid.1; have HS1 := hmid.2.1; have HO1 := all_oneCell_toArray (K.one hR1); obtain ⟨W2, hW2⟩ : ∃ W2, W2 = W1.setCells (w1.heap.size + 1) 0 cs' := ⟨_, rfl⟩; have hz9 := HQZ.out; have hd2 : W2.heap[wr.heap.size]? = wq.heap[wr.heap.size]? := (by rw [hW2]; exact (hmid.2.2.1 _ (by omega)).trans (hb1.block _ (by omega))); have he2 : W2.heap[wr.heap.size + 1]? = wq.heap[wr.heap.size + 1]? := (by rw [hW2]; exact (hmid.2.2.1 _ (by omega)).trans (hb1.block _ (by omega))); have hx2 : RIx W2 w1.heap.size St := (by rw [hW2]; exact hmid.2.2.2); obtain ⟨⟨s0, s6, s7, s8⟩, u0, u1, u2, u3, u4⟩ := HDB.out W2 hd2 he2; have HW2 := Lib.hid hW2; have HX2 := Lib.hid hx2; have HR1 := Lib.hid hR1; have HOW1 := Lib.hid ho1; have HB1 := Lib.hid hb1; clear hmid hz9 hd2 he2 hx2 hW2 hR1 ho1 hb1)
          | (refine wpList_store_mid (by rfl) 35 (.tmp 4) (.tmp 43) (by rfl) (w1.heap.size + 1) 0 cs'.toArray (by rfl) (by rfl) HT1 HS1 HO1 ?_; rw [List.toList_toArray, ← HW2.out])
          | (go_at_call 18; (with_reducible refine (ixPiece_any w1.heap.size St bo bg di (d1, d2) W2 HX2.out HOK.out HLE.out).mono ?_); rintro e W3 ⟨⟨v, rfl⟩, hg3, hx3⟩; have HG3 := Lib.hid hg3; have HX3 := Lib.hid hx3; clear hg3 hx3))
        go_roundw
        case rel => exact ⟨j + 1, cs', own', by omega, by go_num, Lib.hid (by rw [HD.out]; exact MSt.next K HMQ HB1.out HR1.out HOW1.out (by rw [← HW2.out]; exact HG3.out) HX3.out)⟩
        case measure => simp [intOf]; omega
      · have c1 : (kind == 1) = false := by simpa using k1
        by_cases k2 : kind = 2
        · have c2 : (kind == 2) = true := by simp [k2]
          have kp := K.forget bo bg (d1, d2) HMQ.out.r HOK.out
          have HD : Hid (Ix.made (L.take (j + 1)) = Ix.fgt St bo bg (d1, d2)) := Lib.hid (by rw [HTK.out]; unfold Ix.deed; simp [k2])
          clear k1 k2
          go_wp2_with (first
            | (rw [← HWQ.out]; refine wpList_load_mid (by rfl) 35 (.tmp 4) (by rfl) (w1.heap.size + 1) 0 (by rfl) cs _ HXR.out Tryd.underlying35 (by rfl) HXS.out ?_)
            | (go_at_call 11; (with_reducible refine kp.mono ?_); rintro e W1 ⟨cs', own', rfl, hR1, ho1, hb1⟩; have hmid := made_mid K HMQ hR1 hb1; have HT1 := hmid.1; have HS1 := hmid.2.1; have HO1 := all_oneCell_toArray (K.one hR1); obtain ⟨W2, hW2⟩ : ∃ W2, W2 = W1.setCells (w1.heap.size + 1) 0 cs' := ⟨_, rfl⟩; have hz9 := HQZ.out; have hd2 : W2.heap[wr.heap.size]? = wq.heap[wr.heap.size]? := (by rw [hW2]; exact (hmid.2.2.1 _ (by omega)).trans (hb1.block _ (by omega))); have he2 : W2.heap[wr.heap.size + 1]? = wq.heap[wr.heap.size + 1]? := (by rw [hW2]; exact (hmid.2.2.1 _ (by omega)).trans (hb1.block _ (by omega))); have hx2 : RIx W2 w1.heap.size St := (by rw [hW2]; exact hmid.2.2.2); obtain ⟨⟨s0, s6, s7, s8⟩, u0, u1, u2, u3, u4⟩ := HDB.out W2 hd2 he2; have HW2 := Lib.hid hW2; have HX2 := Lib.hid hx2; have HR1 := Lib.hid hR1; have HOW1 := Lib.hid ho1; have HB1 := Lib.hid hb1; clear hmid hz9 hd2 he2 hx2 hW2 hR1 ho1 hb1)
            | (refine wpList_store_mid (by rfl) 35 (.tmp 4) (.tmp 63) (by rfl) (w1.heap.size + 1) 0 cs'.toArray (by rfl) (by rfl) HT1 HS1 HO1 ?_; rw [List.toList_toArray, ← HW2.out])
            | (go_at_call 19; (with_reducible refine (ixForget_any w1.heap.size St bo bg (d1, d2) W2 HX2.out).mono ?_); rintro e W3 ⟨⟨v, rfl⟩, hg3, hx3⟩; have HG3 := Lib.hid hg3; have HX3 := Lib.hid hx3; clear hg3 hx3))
          go_roundw
          case rel => exact ⟨j + 1, cs', own', by omega, by go_num, Lib.hid (by rw [HD.out]; exact MSt.next K HMQ HB1.out HR1.out HOW1.out (by rw [← HW2.out]; exact HG3.out) HX3.out)⟩
          case measure => simp [intOf]; omega
        · have c2 : (kind == 2) = false := by simpa using k2
          have kp := K.bound ⟨bo, bg, bt, bl, bk⟩ (d1, d2) HMQ.out.r HOK.out
          have HD : Hid (Ix.made (L.take (j + 1)) = Ix.bnd St ⟨bo, bg, bt, bl, bk⟩ (d1, d2)) := Lib.hid (by rw [HTK.out]; unfold Ix.deed; simp [k1, k2])
          clear k1 k2
          go_wp2_with (first
            | (rw [← HWQ.out]; refine wpList_load_mid (by rfl) 35 (.tmp 4) (by rfl) (w1.heap.size + 1) 0 (by rfl) cs _ HXR.out Tryd.underlying35 (by rfl) HXS.out ?_)
            | (go_at_call 9; (with_reducible refine kp.mono ?_); rintro e W1 ⟨cs', own', rfl, hR1, ho1, hb1⟩; have hmid := made_mid K HMQ hR1 hb1; have HT1 := hmid.1; have HS1 := hmid.2.1; have HO1 := all_oneCell_toArray (K.one hR1); obtain ⟨W2, hW2⟩ : ∃ W2, W2 = W1.setCells (w1.heap.size + 1) 0 cs' := ⟨_, rfl⟩; have hz9 := HQZ.out; have hd2 : W2.heap[wr.heap.size]? = wq.heap[wr.heap.size]? := (by rw [hW2]; exact (hmid.2.2.1 _ (by omega)).trans (hb1.block _ (by omega))); have he2 : W2.heap[wr.heap.size + 1]? = wq.heap[wr.heap.size + 1]? := (by rw [hW2]; exact (hmid.2.2.1 _ (by omega)).trans (hb1.block _ (by omega))); have hx2 : RIx W2 w1.heap.size St := (by rw [hW2]; exact hmid.2.2.2); obtain ⟨⟨s0, s6, s7, s8⟩, u0, u1, u2, u3, u4⟩ := HDB.out W2 hd2 he2; have HW2 := Lib.hid hW2; have HX2 := Lib.hid hx2; have HR1 := Lib.hid hR1; have HOW1 := Lib.hid ho1; have HB1 := Lib.hid hb1; clear hmid hz9 hd2 he2 hx2 hW2 hR1 ho1 hb1)
            | (refine wpList_store_mid (by rfl) 35 (.tmp 4) (.tmp 26) (by rfl) (w1.heap.size + 1) 0 cs'.toArray (by rfl) (by rfl) HT1 HS1 HO1 ?_; rw [List.toList_toArray, ← HW2.out])
            | (go_at_call 20; (with_reducible refine (ixBound_any w1.heap.size St ⟨bo, bg, bt, bl, bk⟩ (d1, d2) W2 HX2.out).mono ?_); rintro e W3 ⟨⟨v, rfl⟩, hg3, hx3⟩; have HG3 := Lib.hid hg3; have HX3 := Lib.hid hx3; clear hg3 hx3))
          go_roundw
          case rel => exact ⟨j + 1, cs', own', by omega, by go_num, Lib.hid (by rw [HD.out]; exact MSt.next K HMQ HB1.out HR1.out HOW1.out (by rw [← HW2.out]; exact HG3.out) HX3.out)⟩
          case measure => simp [intOf]; omega
    · obtain rfl : j = n := by omega
      have HT : Hid (L.take j = L) := Lib.hid (List.take_of_length_le (by rw [HLN.out]; exact Nat.le_refl _))
      rw [HT.out] at HM
      have hmend := made_end K HM.out HZL.out
      have HXR := Lib.hid HM.out.box.range
      have HXS : Hid ((Tryd.prog.info? 35).map (·.size) = some cs.length) := Lib.hid (by rw [K.len HM.out.r]; exact K.size)
      have HO1 := all_oneCell_toArray (K.one HM.out.r)
      have HT1 := hmend.1
      have HS1 := hmend.2.1
      go_wp2_with (first
        | (refine wpList_load_mid (by rfl) 35 (.tmp 4) (by rfl) (w1.heap.size + 1) 0 (by rfl) cs _ HXR.out Tryd.underlying35 (by rfl) HXS.out ?_)
        | (refine wpList_store_mid (by rfl) 35 (.tmp 2) (.tmp 73) (by rfl) w.heap.size 0 cs.toArray (by rfl) (by rfl) HT1 HS1 HO1 ?_; rw [List.toList_toArray]))
      exact bodyPost_ret (res_made HXS.out rfl rfl hmend.2.2.1) rfl hmend.2.2.2
end Go.Proofs.YtcmhodimkpkmbaaDoor
