/-
  The landed ring: Add, All; the example.
-/
import Derived.Test.YtlhkcfhhgcmieaaCkVictim
import Derived.Test.YtlhkcfhhgcmieaaNumsTo
namespace Go.Proofs.Ytlhkcfhhgcmieaa
open Go.ChangeShapes Go.WideShapes Go.ChangeAt Go.RowKit
set_option maxRecDepth 100000

/-- a load of a whole row whose guard says yes -/
theorem wpList_load_want {P : Program} {ops : Array Oper} {rest : List Oper} {op : Oper} {a : Act} {w : World} {Q : Exit → Act → World → Prop} (hw : Region.wanted op (yielded ops a.tmps) = true) (ty : TypeId) (x : Operand) (ho : op.op = .load ty x)
    (b o : Nat) (hx : a.eval x = .pointer (some ⟨b, o, none⟩)) (cs : List Value) (d : TypeDesc) (hc : w.rangeAt b o cs) (hd : P.underlying ty = some d) (hrow : d.isRow = true) (hi : (P.info? ty).map (·.size) = some cs.length)
    (h : wpList P ops Q rest (a.put op.dst (.agg cs.toArray)) w) : wpList P ops Q (op :: rest) a w :=
  BigFrame.wpList_want hw fun _ hK => wp_load_mid ty x ho b o hx cs d hc hd hrow hi (hK _ _ h)
set_option maxHeartbeats 1000000 in
theorem add_any {l : List Ck.Sit} (ok : Ck.Ok l) (o : Int) (w : World) : Calls Try.prog 13 #[ringV l, .int .i64 o] w fun e w' => e = .returned (ringV (Ck.add l o)) ∧ Below w.heap.size w w' := by
  have hl := ok.len
  have hz := ring_zero
  obtain ⟨wz, hwz⟩ : ∃ wz, wz = (w.alloc (.cells (ringC l).toArray 28)).alloc (.cells (ringC []).toArray 28) := ⟨_, rfl⟩
  obtain ⟨hb1, hb2, hbw⟩ := two_boxes hwz
  have ch := has_any hl o wz
  have cm := may_any o
  have HWZ := Lib.hid hwz
  have hlz := hb2.lt
  have HR := Lib.hid hb1.range
  have HS : Hid ((Try.prog.info? 28).map (·.size) = some (ringC l).length) := Lib.hid (by rw [ring_size, ringC_length hl])
  have HR1 : Hid (∀ w', Below wz.heap.size wz w' → w'.rangeAt w.heap.size 0 (ringC l)) := Lib.hid fun w' hb => (hb1.below hb (by omega)).range
  have HG : Hid (∀ w', Below wz.heap.size wz w' → ∀ m : List Ck.Sit, m.length ≤ 16 → RingOut w w' (w.heap.size + 1) (ringC m)) := Lib.hid fun w' hb m hm => RingOut.mk' hm (hb2.below hb hlz) (ringC_length (by simp)) (hbw.trans (hb.mono hbw.size)) (by omega)
  cases hm : Ck.may o
  · have ht : Ck.add l o = l := by unfold Ck.add; rw [if_neg (by rw [hm]; simp)]
    rw [ht]
    rw [hm] at cm
    have HQ := Lib.hid (HG.out wz (Below.refl _ _) l hl)
    unfold ringV
    clear hb1 hb2 hbw hwz hl hlz hm ht HG HR1 ch ok
    generalize ringC [] = z0 at *
    generalize ringC l = cs at *
    go_enter Try.func13, Try.ntmps13
    go_upto_region 1 with fail
    rw [← HWZ.out]
    go_wp2_with (first
      | (go_at_call 23; (with_reducible refine (cm _).mono ?_); rintro e w1 ⟨rfl, rfl⟩; clear cm)
      | (refine wpList_load_mid (by rfl) 28 (.tmp 2) (by rfl) w.heap.size 0 (by rfl) cs _ HR.out Try.underlying28 (by rfl) HS.out ?_)
      | (refine wpList_store_mid (by rfl) 28 (.tmp 4) (.tmp 13) (by rfl) (w.heap.size + 1) 0 cs.toArray (by rfl) (by rfl) HQ.out.there HQ.out.size HQ.out.one ?_; rw [List.toList_toArray]))
    exact bodyPost_ret (res_ring Try.results13 (by rfl) HQ.out.range HQ.out.len) rfl ⟨rfl, HQ.out.below⟩
  · rw [hm] at cm
    by_cases hp : Ck.pos l o < l.length
    · have ht : Ck.add l o = l := by unfold Ck.add; rw [if_neg (fun h => h.2 hp)]
      rw [ht]
      rw [decide_eq_true hp] at ch
      have HG2 := Lib.hid (fun w' hb => HG.out w' hb l hl)
      unfold ringV at ch ⊢
      clear hb1 hb2 hbw hwz hl hlz hm ht HG hp ok
      generalize ringC [] = z0 at *
      generalize ringC l = cs at *
      go_enter Try.func13, Try.ntmps13
      go_upto_region 1 with fail
      rw [← HWZ.out]
      go_wp2_with (first
        | (go_at_call 23; (with_reducible refine (cm _).mono ?_); rintro e w1 ⟨rfl, rfl⟩; clear cm)
        | (go_at_call 18; (with_reducible refine ch.mono ?_); rintro e w1 ⟨rfl, hb1⟩; have HQ1 := Lib.hid (HR1.out w1 hb1); have HQ := Lib.hid (HG2.out w1 hb1); clear hb1 ch)
        | (refine wpList_load_want (by rfl) 28 (.tmp 2) (by rfl) w.heap.size 0 (by rfl) cs _ HR.out Try.underlying28 (by rfl) HS.out ?_)
        | (refine wpList_load_mid (by rfl) 28 (.tmp 2) (by rfl) w.heap.size 0 (by rfl) cs _ HQ1.out Try.underlying28 (by rfl) HS.out ?_)
        | (refine wpList_store_mid (by rfl) 28 (.tmp 4) (.tmp 13) (by rfl) (w.heap.size + 1) 0 cs.toArray (by rfl) (by rfl) HQ.out.there HQ.out.size HQ.out.one ?_; rw [List.toList_toArray]))
      exact bodyPost_ret (res_ring Try.results13 (by rfl) HQ.out.range HQ.out.len) rfl ⟨rfl, HQ.out.below⟩
    · have ht : Ck.add l o = l ++ [(o, false)] := by unfold Ck.add; rw [if_pos ⟨hm, hp⟩]
      have hr : l.length < 16 := ok.room hm hp
      have cw := fun W => with_any (l := l) hr (o, false) W
      rw [ht]
      rw [decide_eq_false hp] at ch
      have HG2 := Lib.hid (fun w' hb => HG.out w' hb (l ++ [(o, false)]) (by simp; omega))
      unfold ringV at ch cw ⊢
      clear hb1 hb2 hbw hwz hl hlz hm ht HG hp ok hr
      generalize ringC [] = z0 at *
      generalize ringC (l ++ [(o, false)]) = c2 at *
      generalize ringC l = cs at *
      go_enter Try.func13, Try.ntmps13
      go_upto_region 1 with fail
      rw [← HWZ.out]
      go_wp2_with (first
        | (go_at_call 23; (with_reducible refine (cm _).mono ?_); rintro e w1 ⟨rfl, rfl⟩; clear cm)
        | (go_at_call 18; (with_reducible refine ch.mono ?_); rintro e w1 ⟨rfl, hb1⟩; have HB1 := Lib.hid hb1; have HQ1 := Lib.hid (HR1.out w1 hb1); clear hb1 ch)
        | (refine wpList_load_want (by rfl) 28 (.tmp 2) (by rfl) w.heap.size 0 (by rfl) cs _ HR.out Try.underlying28 (by rfl) HS.out ?_)
        | (refine wpList_load_mid (by rfl) 28 (.tmp 2) (by rfl) w.heap.size 0 (by rfl) cs _ HQ1.out Try.underlying28 (by rfl) HS.out ?_)
        | (go_at_call 22; (with_reducible refine (cw _).mono ?_); rintro e w2 ⟨rfl, hb2⟩; have HQ := Lib.hid (HG2.out w2 (HB1.out.trans (hb2.mono HB1.out.size))); clear hb2 cw)
        | (refine wpList_store_mid (by rfl) 28 (.tmp 4) (.tmp 17) (by rfl) (w.heap.size + 1) 0 c2.toArray (by rfl) (by rfl) HQ.out.there HQ.out.size HQ.out.one ?_; rw [List.toList_toArray]))
      exact bodyPost_ret (res_ring Try.results13 (by rfl) HQ.out.range HQ.out.len) rfl ⟨rfl, HQ.out.below⟩
end Go.Proofs.Ytlhkcfhhgcmieaa
