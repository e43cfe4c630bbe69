/-
  maps.Copy onto a map that was just made.
-/
import Derived.Test.YtcmhodimkpkmbaaDoorIxMap
import Derived.LoopTactic
namespace Go.Proofs.YtcmhodimkpkmbaaDoor
open Go.ChangeShapes Go.WideShapes Go.ChangeAt Go.RowKit Go.Maps
set_option maxRecDepth 100000

/-- how far the copying has come -/
structure Cpi (W wr : World) (mb nm r : Nat) (l : List Ix.Sc) (D : DataW Value) (left : Lit → Bool) (cnt n2 : Nat) : Prop where
  rg : wr.ranges Tryd.prog 3 rda mb r l.length (mapD l) left cnt
  ow : wr.ownsMap Tryd.prog 3 rda nm n2 D
  ag : Agree D (mapD l) left
  sum : cnt + n2 ≤ l.length
  bel : W.grownBy wr (some nm)
theorem int_inv {x : Int} {kl : Lit} (h : keyOf Tryd.prog 3 (.int .i64 x) = some kl) : kl = il x ∧ W64 x := by
  obtain ⟨y, e, rfl, hw⟩ := Maps.keyOf_int_inv Tryd.underlying3 h
  injection e with _ e
  subst e
  exact ⟨rfl, hw⟩
theorem mcopy_nil {W : World} {nm : Nat} (hd : Mpi W nm []) :
    Calls Tryd.prog 37 #[.map (some nm), .map none] W fun e W' => (∃ v, e = .returned v) ∧ W.grownBy W' (some nm) ∧ Mpi W' nm [] := by
  have hrg : ∀ wx : World, (Instr.range 26 (.map none)).run Tryd.prog wx = _ := fun wx => run_range_nilMap wx 26 3 30 Tryd.underlying26
  have hnx : ∀ ty, (Instr.next (.pointer (some ⟨W.heap.size, 0, none⟩)) false ty).run Tryd.prog (W.alloc (.mapIter none 0 #[] 0)) = .ok (.tuple #[.bool false]) (W.alloc (.mapIter none 0 #[] 0)) := fun ty => by
    simpa using run_next_nilMap (P := Tryd.prog) W ty 0 0 #[]
  have HD := Lib.hid hd
  clear hd
  go_enter Tryd.func37, Tryd.ntmps37
  go_wp2
  refine wp_loop_rounds 1 ?_
  rw [rounds_succ]
  go_wp2
  go_end0
  exact ⟨⟨_, rfl⟩, World.grownBy_alloc _ _ _, World.ownsMap.alloc HD.out _⟩
set_option maxHeartbeats 2000000 in
theorem mcopy_some {W : World} {nm mb : Nat} {l : List Ix.Sc} (hd : Mpi W nm []) (hs : Mpi W mb l) (hne : mb ≠ nm) (hr : Ix.Rise l) (hn : l.length ≤ 100000) :
    Calls Tryd.prog 37 #[.map (some nm), .map (some mb)] W fun e W' => (∃ v, e = .returned v) ∧ W.grownBy W' (some nm) ∧ Mpi W' nm l := by
  have HN := Lib.hid hn
  have HNE := Lib.hid hne
  have HNM := Lib.hid hd.lt
  have HMB := Lib.hid hs.lt
  have HD := Lib.hid hd
  have HRI := Lib.hid hr
  have hown : W.ownsMap Tryd.prog 3 rda mb l.length (mapD l) := hs
  clear hn hne hd hs hr
  go_enter Tryd.func37, Tryd.ntmps37
  go_wp2_with (first
    | (at_range; refine wpList_range_own _ rfl _ 26 rfl 3 30 intKey Tryd.underlying26 rda mb _ _ rfl hown ?_; intro w0 hrg0 hg0 hs0)
    | go_in)
  go_frame
  obtain ⟨r, hr⟩ : ∃ r, r = W.heap.size := ⟨_, rfl⟩
  have HR := Lib.hid hr
  rw [← hr] at hrg0
  have HC0 : Hid (Cpi W w0 mb nm r l (.map []) (Maps.has (mapD l)) (Maps.size (mapD l)) 0) := Lib.hid ⟨hrg0, World.ownsMap.kept HD.out hg0 (by simp), agree_start _, by rw [size_mapD]; exact Nat.le_refl _, hg0.but _⟩
  rw [← hr]
  clear hr hrg0 hg0 hs0 hown
  go_loopw [4, 5] (fun _ _ wr => ∃ (D : DataW Value) (left : Lit → Bool) (cnt n2 : Nat), Hid (Cpi W wr mb nm r l D left cnt n2)) (fun _ _ wr => wr.rangeLeft mb r)
  case atStart => exact ⟨_, _, _, _, HC0⟩
  case round =>
    obtain ⟨D, left, cnt, n2, HC⟩ := hrel
    have hrg := HC.out.rg
    go_wp2_with (first
      | (at_next; refine wpList_next_ranges _ rfl _ rfl 3 intKey rda (fun x : Int => .int .i64 x) (fun a : Int × Int => adV a) (fun key kl hk => (by obtain ⟨x, e, _⟩ := Maps.keyOf_int_inv Tryd.underlying3 hk; exact ⟨x, e⟩)) (fun v y hv => (by obtain ⟨a, e, _⟩ := rda_inv hv; exact ⟨a, e⟩)) mb r _ _ _ _ rfl hrg ?_ ?_)
      | go_in)
    · intro hc0 hl0
      have HL0 := Lib.hid hl0
      clear hl0 hc0 hrg
      go_wp2
      go_end0
      have hc := HC.out
      have he := agree_end hc.ag HL0.out (World.ownsMap.canon hc.ow intKey) (canon_mapD HRI.out)
      have ho := hc.ow
      rw [he] at ho
      exact ⟨⟨_, rfl⟩, hc.bel, Mpi.of ho⟩
    · intro x a1 a2 kl yd ys w1 cnt1 hkey hlk hv hat hrg1 hlt hg1 hs1 hen
      obtain ⟨rfl, hx⟩ := int_inv hkey
      rw [rda_mk] at hv
      injection hv with hv
      injection hv with hv _
      subst hv
      have hb1 := HC.out.bel
      have hgA := hg1.andThen (World.grownBy_alloc w1 (.cells #[.int .i64 a1, .int .i64 a2] 30) none) (by simp)
      have hrn : some nm ≠ some r := by have h1 := HR.out; have h2 := HNM.out; simp; omega
      have how : (w1.alloc (.cells #[.int .i64 a1, .int .i64 a2] 30)).ownsMap Tryd.prog 3 rda nm n2 D := World.ownsMap.kept HC.out.ow hgA hrn
      obtain ⟨w4, hrun4, ho4, ht4⟩ := World.ownsMap.store how intKey Tryd.underlying26 (by have h1 := HC.out.sum; have h2 := HN.out; unfold maxLen; omega) (keyOf_int_mk Tryd.underlying3 hx) (rda_mk (a1, a2))
      have HNX : Hid (Cpi W w4 mb nm r l (D.put (il x) (.held (adV (a1, a2)))) (fun z => left z && !z.sameKey (il x)) cnt1 (n2 + 1)) := Lib.hid (by
        have hc := HC.out
        have h2 := HNE.out
        have h3 := HMB.out
        have h4 := HR.out
        have h5 := HNM.out
        refine ⟨(hrg1.kept (World.grownBy_alloc w1 _ none) (by simp) (by simp)).kept ht4.grown (by simpa using h2) (by simp; omega), ho4, agree_step hc.ag (World.ownsMap.isMap hc.ow) True.intro hat, by have := hc.sum; omega, ?_⟩
        exact (hb1.andThen hgA (fun j hj => by injection hj with hj; left; omega)).andThen ht4.grown (fun j hj => .inr hj))
      have HLT := Lib.hid hlt
      clear hat hrg1 hlt hg1 hs1 hkey hlk hb1 hgA how ho4 ht4 hrg
      go_wp2
      go_roundw
      case rel => exact ⟨_, _, _, _, HNX⟩
      case measure => rw [HNX.out.rg.left_eq, HC.out.rg.left_eq]; exact HLT.out
end Go.Proofs.YtcmhodimkpkmbaaDoor
