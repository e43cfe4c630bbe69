/-
  maps.Equal at two maps from numbers to places.
-/
import Derived.Test.YtcmhodimkpkmbaaDoorIxEq
import Derived.Test.YtcmhodimkpkmbaaDoorIxGet
import Derived.LoopTactic
namespace Go.Proofs.YtcmhodimkpkmbaaDoor
open Go.ChangeShapes Go.WideShapes Go.ChangeAt Go.RowKit Go.Maps
set_option maxRecDepth 100000

theorem rise_sub : ∀ (l2 l1 : List Ix.Sc), Ix.Rise l1 → Ix.Rise l2 → (∀ z ∈ l1, z ∈ l2) → l1.length ≤ l2.length
  | [], l1, _, _, h => by
    cases l1 with
    | nil => simp
    | cons z l => exact absurd (h z (List.mem_cons_self ..)) (by simp)
  | z2 :: l2, [], _, _, _ => by simp
  | z2 :: l2, z1 :: l1, h1, h2, h => by
    obtain ⟨a1, a2⟩ := List.pairwise_cons.1 h1
    obtain ⟨b1, b2⟩ := List.pairwise_cons.1 h2
    by_cases e : z1 = z2
    · subst e
      have := rise_sub l2 l1 a2 b2 (fun z hz => by
        rcases List.mem_cons.1 (h z (List.mem_cons_of_mem _ hz)) with rfl | h3
        · have := a1 _ hz; omega
        · exact h3)
      simp only [List.length_cons]
      omega
    · have hz1 : z1 ∈ l2 := by
        rcases List.mem_cons.1 (h z1 (List.mem_cons_self ..)) with h3 | h3
        · exact absurd h3 e
        · exact h3
      have := b1 _ hz1
      have h4 := rise_sub l2 (z1 :: l1) h1 b2 (fun z hz => by
        rcases List.mem_cons.1 (h z hz) with rfl | h3
        · rcases List.mem_cons.1 hz with h5 | h5
          · exact absurd h5.symm e
          · have := a1 _ h5; omega
        · exact h3)
      simp only [List.length_cons] at h4 ⊢
      omega
theorem rise_eq : ∀ (l1 l2 : List Ix.Sc), Ix.Rise l1 → Ix.Rise l2 → l1.length = l2.length → (∀ z ∈ l1, z ∈ l2) → l1 = l2
  | [], l2, _, _, hl, _ => by
    cases l2 with
    | nil => rfl
    | cons _ _ => simp at hl
  | z1 :: l1, [], _, _, hl, _ => by simp at hl
  | z1 :: l1, z2 :: l2, h1, h2, hl, h => by
    obtain ⟨a1, a2⟩ := List.pairwise_cons.1 h1
    obtain ⟨b1, b2⟩ := List.pairwise_cons.1 h2
    by_cases e : z1 = z2
    · subst e
      rw [rise_eq l1 l2 a2 b2 (by simpa using hl) (fun z hz => by
        rcases List.mem_cons.1 (h z (List.mem_cons_of_mem _ hz)) with rfl | h3
        · have := a1 _ hz; omega
        · exact h3)]
    · exfalso
      have hz1 : z1 ∈ l2 := by
        rcases List.mem_cons.1 (h z1 (List.mem_cons_self ..)) with h3 | h3
        · exact absurd h3 e
        · exact h3
      have := b1 _ hz1
      have h4 := rise_sub l2 (z1 :: l1) h1 b2 (fun z hz => by
        rcases List.mem_cons.1 (h z hz) with rfl | h3
        · rcases List.mem_cons.1 hz with h5 | h5
          · exact absurd h5.symm e
          · have := a1 _ h5; omega
        · exact h3)
      simp only [List.length_cons] at h4 hl
      omega
theorem look_mem {l : List Ix.Sc} {i : Int} {a : Ix.Ad} (h : Ix.look l i = some a) : (i, a) ∈ l := by
  unfold Ix.look at h
  obtain ⟨z, hz, rfl⟩ := Option.map_eq_some_iff.1 h
  have h1 := List.mem_of_find?_eq_some hz
  have h2 : z.1 = i := by simpa using List.find?_some hz
  rw [← h2]
  exact h1
theorem look_of_mem {l : List Ix.Sc} (hr : Ix.Rise l) {z : Ix.Sc} (h : z ∈ l) : Ix.look l z.1 = some z.2 := by
  unfold Ix.look
  induction l with
  | nil => cases h
  | cons y l ih =>
    obtain ⟨a1, a2⟩ := List.pairwise_cons.1 hr
    rw [List.find?_cons]
    rcases List.mem_cons.1 h with rfl | h
    · simp
    · have : (y.1 == z.1) = false := by rw [beq_eq_false_iff_ne]; have := a1 z h; omega
      rw [this]
      exact ih a2 h
/-- what has come is alike -/
structure Meq (w wr : World) (mb r : Nat) (l1 l2 : List Ix.Sc) (v2 : Value) (left : Lit → Bool) (cnt : Nat) : Prop where
  rg : wr.ranges Tryd.prog 3 rda mb r l1.length (mapD l1) left cnt
  map : MapOf wr v2 l2
  came : ∀ z ∈ l1, left (il z.1) = true ∨ Ix.look l2 z.1 = some z.2
  below : Below w.heap.size w wr
  rl : w.heap.size ≤ r
def slB (l1 l2 : List Ix.Sc) : Bool := decide (l1 = l2)
set_option maxHeartbeats 4000000 in
theorem mequal_any {w : World} {v1 v2 : Value} {l1 l2 : List Ix.Sc} (h1 : MapOf w v1 l1) (h2 : MapOf w v2 l2) (hr1 : Ix.Rise l1) (hr2 : Ix.Rise l2) :
    Calls Tryd.prog 43 #[v1, v2] w fun e w' => e = .returned (.bool (slB l1 l2)) ∧ Below w.heap.size w w' := by
  obtain ⟨q, hq⟩ : ∃ q, q = slB l1 l2 := ⟨_, rfl⟩
  have HQ := Lib.hid hq
  rw [← hq]
  clear hq
  have hn1 := fun ty => len_run h1 ty
  have hn2 := fun ty => len_run h2 ty
  by_cases hl : l1.length = l2.length
  · have hle : ((l1.length : Int) != (l2.length : Int)) = false := by simp [hl]
    obtain ⟨n1, hq1⟩ : ∃ n : Int, n = (l1.length : Int) := ⟨_, rfl⟩
    obtain ⟨n2, hq2⟩ : ∃ n : Int, n = (l2.length : Int) := ⟨_, rfl⟩
    have HL := Lib.hid hl
    have HR1 := Lib.hid hr1
    have HR2 := Lib.hid hr2
    have H2 := Lib.hid h2
    obtain ⟨mo2, rfl⟩ := h2.map
    rcases h1 with ⟨rfl, rfl⟩ | ⟨mb, rfl, h1⟩
    · have he : q = true := by
        rw [HQ.out]
        have : l2 = [] := List.length_eq_zero_iff.1 hl.symm
        subst this
        rfl
      rw [he]
      rw [← hq1] at hn1 hle
      rw [← hq2] at hn2 hle
      have hrg : ∀ wx : World, (Instr.range 26 (.map none)).run Tryd.prog wx = _ := fun wx => run_range_nilMap wx 26 3 30 Tryd.underlying26
      have hnx : ∀ (ty : TypeId), (Instr.next (.pointer (some ⟨w.heap.size, 0, none⟩)) false ty).run Tryd.prog (w.alloc (.mapIter none 0 #[] 0)) = .ok (.tuple #[.bool false]) (w.alloc (.mapIter none 0 #[] 0)) := fun ty => by
        simpa using run_next_nilMap (P := Tryd.prog) w ty 0 0 #[]
      have HB : Hid (Below w.heap.size w (w.alloc (.mapIter none 0 #[] 0))) := Lib.hid ((Below.refl _ w).alloc (Nat.le_refl _) _)
      clear hl he hq1 hq2 hr1 hr2 h2
      go_enter Tryd.func43, Tryd.ntmps43
      go_wp2
      refine wp_loop_rounds 1 ?_
      rw [rounds_succ]
      go_wp2
      go_ret
      exact ⟨rfl, HB.out⟩
    · have hown : w.ownsMap Tryd.prog 3 rda mb l1.length (mapD l1) := h1
      have HML := Lib.hid h1.lt
      rw [← hq1] at hn1 hle
      rw [← hq2] at hn2 hle
      clear hl hq1 hq2 hr1 hr2 h2 h1
      go_enter Tryd.func43, Tryd.ntmps43
      go_wp2_with (first
        | (at_range; refine wpList_range_own _ rfl _ 26 rfl 3 30 intKey Tryd.underlying26 rda mb _ _ rfl hown ?_; intro w0 hrg0 hg0 hs0)
        | go_in)
      go_frame
      obtain ⟨r, hr⟩ : ∃ r, r = w.heap.size := ⟨_, rfl⟩
      have HR := Lib.hid hr
      rw [← hr] at hrg0 ⊢
      have HC0 : Hid (Meq w w0 mb r l1 l2 (.map mo2) (Maps.has (mapD l1)) (Maps.size (mapD l1))) := Lib.hid (by
        have hb0 : Below w.heap.size w w0 := (Below.refl _ w).grown hg0 (Nat.le_refl _) (fun q e => (nomatch e))
        refine ⟨hrg0, H2.out.below hb0, fun z hz => .inl ?_, hb0, by rw [HR.out]; exact Nat.le_refl _⟩
        rw [has_mapD, look_of_mem HR1.out hz]
        rfl)
      clear hr hrg0 hg0 hs0 hown hn1 hn2 hle
      go_loopw [5, 6, 7, 8] (fun _ _ _ _ wr => ∃ (left : Lit → Bool) (cnt : Nat), Hid (Meq w wr mb r l1 l2 (.map mo2) left cnt)) (fun _ _ _ _ wr => wr.rangeLeft mb r)
      case atStart => exact ⟨_, _, HC0⟩
      case round =>
        obtain ⟨left, cnt, HC⟩ := hrel
        have hrg := HC.out.rg
        go_wp2_with (first
          | (at_next; refine wpList_next_ranges _ rfl _ rfl 3 intKey rda (fun x : Int => .int .i64 x) (fun a : Int × Int => adV a) (fun key kl hk => (by obtain ⟨x, e, _⟩ := Maps.keyOf_int_inv Tryd.underlying3 hk; exact ⟨x, e⟩)) (fun v y hv => (by obtain ⟨a, e, _⟩ := rda_inv hv; exact ⟨a, e⟩)) mb r _ _ _ _ rfl hrg ?_ ?_)
          | go_in)
        · intro hc0 hl0
          have he : q = true := HQ.out.trans <| decide_eq_true (rise_eq l1 l2 HR1.out HR2.out HL.out fun z hz => by
            rcases HC.out.came z hz with h | h
            · rw [hl0] at h; cases h
            · exact look_mem h)
          have HE := Lib.hid he
          have HBE := Lib.hid HC.out.below
          clear hc0 hl0 he hrg
          go_wp2
          go_ret
          exact ⟨by rw [HE.out]; rfl, HBE.out⟩
        · intro x a1 a2 kl yd ys w1 cnt1 hkey hlk hv hat hrg1 hlt hg1 hs1 hen
          obtain ⟨rfl, hx⟩ := int_inv hkey
          rw [rda_mk] at hv
          injection hv with hv
          injection hv with hv _
          subst hv
          have hm1 : (x, (a1, a2)) ∈ l1 := by
            have h9 := hat .nil
            rw [at_mapD] at h9
            cases hk : Ix.look l1 x with
            | none => rw [hk] at h9; cases h9
            | some b =>
              rw [hk] at h9
              injection h9 with h9
              have : b = (a1, a2) := by
                obtain ⟨b1, b2⟩ := b
                simpa using h9
              rw [← this]
              exact look_mem hk
          have hb1 : Below w.heap.size w w1 := HC.out.below.grown hg1 HC.out.below.size (fun q e => by injection e with e; have := HC.out.rl; omega)
          have hmap1 : MapOf w1 (.map mo2) l2 := by
            have := H2.out.below hb1
            exact this
          have hb2 : Below w.heap.size w (w1.alloc (.cells #[.int .i64 a1, .int .i64 a2] 30)) := hb1.alloc hb1.size _
          have hmap2 : MapOf (w1.alloc (.cells #[.int .i64 a1, .int .i64 a2] 30)) (.map mo2) l2 := H2.out.below hb2
          have hlook := look_run hmap2 hx true
          simp only [if_true] at hlook
          have hne : q = true → l1 = l2 := fun h => by
            have := HQ.out
            rw [h] at this
            exact of_decide_eq_true this.symm
          have HB2 := Lib.hid hb2
          have hbx := fun o => hb2.alloc hb2.size o
          have HBX := Lib.hid hbx
          have HLT := Lib.hid hlt
          have HRG1 := Lib.hid hrg1
          have HM1 := Lib.hid hm1
          cases hk : Ix.look l2 x with
          | none =>
            rw [hk] at hlook
            have HE : Hid (q = false) := Lib.hid (by
              cases hqq : q
              · rfl
              · have e := hne hqq
                have := look_of_mem HR1.out hm1
                rw [e] at this
                rw [hk] at this
                cases this)
            clear hat hrg1 hlt hg1 hs1 hkey hlk hm1 hb1 hmap1 hb2 hmap2 hne hbx hk hrg hx
            go_wp2
            go_ret
            exact ⟨by rw [HE.out]; rfl, HBX.out _⟩
          | some b =>
            obtain ⟨b1, b2⟩ := b
            rw [hk] at hlook
            have hnq := ad_neq (a1, a2) (b1, b2)
            cases hab : adB (a1, a2) (b1, b2)
            · rw [hab] at hnq
              have HE : Hid (q = false) := Lib.hid (by
                cases hqq : q
                · rfl
                · have e := hne hqq
                  have h9 := look_of_mem HR1.out hm1
                  rw [e] at h9
                  rw [hk] at h9
                  injection h9 with h9
                  have := adB_iff.2 h9.symm
                  rw [hab] at this
                  cases this)
              clear hat hrg1 hlt hg1 hs1 hkey hlk hm1 hb1 hmap1 hb2 hmap2 hne hbx hk hrg hx hab
              go_wp2
              go_ret
              exact ⟨by rw [HE.out]; rfl, HBX.out _⟩
            · rw [hab] at hnq
              have HNX : Hid (∀ o, Meq w ((w1.alloc (.cells #[.int .i64 a1, .int .i64 a2] 30)).alloc o) mb r l1 l2 (.map mo2) (fun z => left z && !z.sameKey (il x)) cnt1) := Lib.hid fun o => by
                refine ⟨(hrg1.kept (World.grownBy_alloc w1 _ none) (by simp) (by simp)).kept (World.grownBy_alloc _ _ none) (by simp) (by simp), H2.out.below (hbx o), fun z hz => ?_, hbx o, HC.out.rl⟩
                by_cases ez : z.1 = x
                · right
                  have h7 := look_of_mem HR1.out hz
                  have h8 := look_of_mem HR1.out hm1
                  rw [ez] at h7 ⊢
                  have h9 : z.2 = (a1, a2) := Option.some.inj (h7.symm.trans h8)
                  rw [hk, h9, adB_iff.1 hab]
                · rcases HC.out.came z hz with h | h
                  · left
                    rw [h, il_same]
                    simpa using ez
                  · exact .inr h
              clear hat hrg1 hlt hg1 hs1 hkey hlk hm1 hb1 hmap1 hb2 hmap2 hne hbx hk hrg hx hab
              go_wp2
              go_roundw
              case rel => exact ⟨_, _, Lib.hid (HNX.out _)⟩
              case measure => rw [(HNX.out _).rg.left_eq, HC.out.rg.left_eq]; exact HLT.out
  · have hle : ((l1.length : Int) != (l2.length : Int)) = true := by simp; omega
    have he : q = false := HQ.out.trans (decide_eq_false fun h => hl (by rw [h]))
    obtain ⟨n1, hq1⟩ : ∃ n : Int, n = (l1.length : Int) := ⟨_, rfl⟩
    obtain ⟨n2, hq2⟩ : ∃ n : Int, n = (l2.length : Int) := ⟨_, rfl⟩
    rw [← hq1] at hn1 hle
    rw [← hq2] at hn2 hle
    clear hl hq1 hq2 hr1 hr2 h1 h2
    go_enter Tryd.func43, Tryd.ntmps43
    go_wp2
    go_ret
    exact ⟨by rw [he]; rfl, Below.refl _ _⟩
end Go.Proofs.YtcmhodimkpkmbaaDoor
