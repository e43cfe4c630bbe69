/-
  The document's Copy: a device of its own; the bytes are shared, and nobody writes them.
-/
import Derived.Test.YtgnncbbfbhipaaaFlashMade
namespace Go.Proofs.Ytgnncbbfbhipaaa
open Go.ChangeShapes Go.WideShapes Go.ChangeAt Go.RowKit Fl
set_option maxRecDepth 100000

section
variable {P : Program} (w : World)
/-- append of a whole row onto nil -/
theorem run_append_nil (t ty e : TypeId) (i : TypeInfo) (z : Value) (size bytes : Nat) (ht : P.underlying t = some (.slice e)) (hi : P.info? e = some i) (hz : i.zero = some z)
    (hsize : i.size = size) (hby : i.bytes = bytes) (hzs : z.cells.size = size) (hsz : 0 < size) (B : Nat) (u : Value) (n : Nat) (xs : List Value) (hu : w.ownsRow B e size u n xs) (h1 : ∀ y ∈ xs, y.oneCell' = true) (hn : n ≤ maxLen) (hbytes : n * bytes ≤ 140737488355328) :
    ∃ v' w', (Builtin.append_ #[t, t] ty #[.slice none 0 0, u]).run P w = .ok v' w' ∧ w'.ownsRow w.heap.size e size v' n xs ∧ w.grownBy w' none := by
  rcases hu.2 with ⟨rfl, h0⟩ | ⟨g, c, cur, rfl, hrest⟩
  · have hr := run_append_owned_none (P := P) (w := w) w.heap.size t ty e i size ht hi _ 0 [] (World.ownsRow_nil w w.heap.size e size)
    obtain rfl : n = 0 := h0
    obtain rfl : xs = [] := List.eq_nil_of_length_eq_zero (by have := hu.1; omega)
    exact ⟨_, _, hr, World.ownsRow_nil _ _ _ _, ⟨rfl, rfl, rfl, Nat.le_refl _, fun _ _ _ => rfl⟩⟩
  · obtain ⟨v', w', hr, h2, h3, -⟩ := run_append_own (P := P) w w.heap.size t ty e i z size bytes ht hi hz hsize hby hzs hsz (.slice none 0 0) 0 [] (World.ownsRow_nil w w.heap.size e size) ⟨g, 0, none⟩ n c xs hu.1 (fun j x hx => hu.cells rfl j x hx) h1 (by omega) (by rw [Nat.zero_add]; exact hbytes) (Nat.le_refl _)
    exact ⟨v', w', hr, by simpa using h2, h3⟩
theorem step_append_nil {ops : Array Oper} {o : Oper} {a : Act} {K : Act → World → Prop} {Q : Exit → Act → World → Prop} {E : Prop} (hgd : o.guard = none) (s x : Operand) (t : TypeId)
    (ho : o.op = .call { callee := .builtin .append, args := #[s, x], argTypes := #[t, t] }) (e : TypeId) (i : TypeInfo) (z : Value) (size bytes : Nat) (ht : P.underlying t = some (.slice e)) (hi : P.info? e = some i) (hz : i.zero = some z)
    (hsize : i.size = size) (hby : i.bytes = bytes) (hzs : z.cells.size = size) (hsz : 0 < size) (B : Nat) (u : Value) (n : Nat) (xs : List Value) (hs : a.eval s = .slice none 0 0) (hx : a.eval x = u) (hu : w.ownsRow B e size u n xs) (h1 : ∀ y ∈ xs, y.oneCell' = true) (hn : n ≤ maxLen) (hbytes : n * bytes ≤ 140737488355328)
    (h : ∀ v' w', w'.ownsRow w.heap.size e size v' n xs → w.grownBy w' none → K (a.put o.dst v') w') : if Region.wanted o (yielded ops a.tmps) = true then Oper.wp P o a w K Q else E := by
  have hw : Region.wanted o (yielded ops a.tmps) = true := by simp [Region.wanted, hgd]
  rw [if_pos hw]
  obtain ⟨v', w', hr, h2, h3⟩ := run_append_nil (P := P) w t o.type e i z size bytes ht hi hz hsize hby hzs hsz B u n xs hu h1 hn hbytes
  unfold Oper.wp execOp
  simp only [ho, resolve, invoke, builtin, Sem.run_bind, Sem.run_pure, Result.andThen_ok, List.map_toArray, List.map_cons, List.map_nil, hs, hx, hr]
  exact h v' w' h2 h3
end
theorem quads_one {Q : List (Pg × Value)} (h : ∀ q ∈ Q, ∃ A n c, q.2 = .slice A n c) : ∀ y ∈ quads Q, y.oneCell' = true := by
  intro y hy
  obtain ⟨q, hq, hy⟩ := List.mem_flatMap.1 hy
  obtain ⟨A, n, c, e⟩ := h q hq
  simp only [cells4, List.mem_cons, List.not_mem_nil, or_false] at hy
  rcases hy with rfl | rfl | rfl | rfl
  · rfl
  · rfl
  · rw [e]; rfl
  · rfl
/-- a copy of its own -/
def RefCopyTo (k S P B : Nat) (L : List Pg) (w : World) (v : Nat → Nat) (e : Ending) (w' : World) : Prop :=
  ∃ cb v', e = .returned (.pointer (some ⟨cb, 0, none⟩)) ∧ Rdv w' v' k S P B cb L ∧ (∀ j, Stp j w w' v v') ∧ Below w.heap.size w w'
section
variable {k k2 S P B xb : Nat} {w : World} {v : Nat → Nat} {L : List Pg}
theorem copy_born (h : Rdv w v k S P B xb L) {u : Value} {Q : List (Pg × Value)} (hQ : Q.map Prod.fst = L) (hdat : ∀ q ∈ Q, Dt w v q.2 (full B q.1.raw)) {w1 : World} (hg : w.grownBy w1 none) (hown : w1.ownsRow w.heap.size 48 4 u L.length (quads Q)) :
    RefCopyTo k2 S P B L w v (.returned (.pointer (some ⟨w1.heap.size, 0, none⟩))) (w1.alloc (.cells #[.int .i64 S, .int .i64 P, .int .i64 B, u] 42)) := by
  have hb1 : Below w.heap.size w w1 := (Below.refl _ _).grown hg (Nat.le_refl _) (fun _ e => (nomatch e))
  have hb2 := hb1.alloc hb1.size (.cells #[.int .i64 S, .int .i64 P, .int .i64 B, u] 42)
  have hst0 : ∀ j, Stp j w (w1.alloc (.cells #[.int .i64 S, .int .i64 P, .int .i64 B, u] 42)) v (paint v w1.heap.size k2) := fun j => (Stp.below hb2 h.fr).paint k2 hb1.size (by simp)
  have hst : ∀ j, Stp j w (w1.alloc (.cells #[.int .i64 S, .int .i64 P, .int .i64 B, u] 42)) v (pl (paint v w1.heap.size k2) u k2) := fun j => by
    cases hu : u.ownBlock with
    | none => rw [pl_none hu]; exact hst0 j
    | some g =>
      rw [pl_paint hu]
      obtain ⟨h1, h2⟩ := hown.lt g hu
      exact (hst0 j).paint k2 h1 (by simp; omega)
  have hne : ∀ g, u.ownBlock = some g → g ≠ w1.heap.size := fun g hu => by have := (hown.lt g hu).2; omega
  refine ⟨_, _, rfl, ⟨h.shp, h.ok, (hst 0).fresh, ?_, ⟨u, Q, heap_alloc_new w1 _, hQ, ?_, fun g hu => ⟨pl_own hu, hne g hu⟩, fun q hq => (hdat q hq).stp (hst 1) (by omega)⟩⟩, hst, hb2⟩
  · rw [pl_other (fun e => hne _ e rfl)]
    exact paint_same _ _ _
  · have ho := own_belowN hown (below_new4 w1 (.cells #[.int .i64 S, .int .i64 P, .int .i64 B, u] 42))
    refine ⟨ho.1, ?_⟩
    rcases ho.2 with h1 | ⟨g, c, cur, h1, -, h3⟩
    · exact .inl h1
    · exact .inr ⟨g, c, cur, h1, Nat.zero_le _, h3⟩
set_option maxHeartbeats 4000000 in
theorem refCopy_any (h : Rdv w v k S P B xb L) (hL : L.length ≤ 100000) : Calls Try.prog 11 #[.pointer (some ⟨xb, 0, none⟩)] w (RefCopyTo k2 S P B L w v) := by
  obtain ⟨i0, hi, hz, hsz, hby⟩ := info_parts page_info
  have HI := Lib.hid hi
  have HZ := Lib.hid hz
  have HSZ := Lib.hid hsz
  have HBY := Lib.hid hby
  clear hi hz hsz hby
  obtain ⟨U, Q, hcell, c0, c1, c2, c3, -, hQ, hown, hub, hdat⟩ := h.four
  obtain ⟨AU, nU, cU, rfl⟩ := own_slice9 hown
  have HD := Lib.hid h
  have HU := Lib.hid hcell
  have HO := Lib.hid hown
  have HQ := Lib.hid hQ
  have HDAT := Lib.hid hdat
  have H1 : Hid (∀ y ∈ quads Q, y.oneCell' = true) := Lib.hid (quads_one fun q hq => by
    obtain ⟨A, c, e, _⟩ := hdat q hq
    exact ⟨A, _, c, e⟩)
  have HXB := Lib.hid h.ltx
  obtain ⟨N, hN⟩ : ∃ N, N = L.length := ⟨_, rfl⟩
  rw [← hN] at HO hL
  have HN := Lib.hid hN
  have HO2 : Hid (w.drew.ownsRow 0 48 4 (.slice AU nU cU) N (quads Q)) := Lib.hid (own_belowN HO.out (Below.refl _ _).drew)
  clear h hown hQ hdat hub hcell hN
  go_enter Try.func11, Try.ntmps11
  go_wp2
  go_region_law (first
    | (refine step_append_nil _ (by rfl) _ _ _ (by rfl) 48 i0 _ 4 48 Try.underlying40 HI.out HZ.out HSZ.out HBY.out rfl (by omega) 0 (.slice AU nU cU) N (quads Q) (by rfl) (by rfl) HO2.out H1.out (by unfold maxLen; omega) (by omega) ?_; intro v6 w6 hown6 hgrow6; obtain ⟨A6, n6, c6, rfl⟩ := own_slice9 hown6; have k0 : w6.cell? ⟨xb, 0, none⟩ = some (.int .i64 S) := hgrow6.cell c0 (fun e => (nomatch e)); have k1 : w6.cell? ⟨xb, 1, none⟩ = some (.int .i64 P) := hgrow6.cell c1 (fun e => (nomatch e)); have k2 : w6.cell? ⟨xb, 2, none⟩ = some (.int .i64 B) := hgrow6.cell c2 (fun e => (nomatch e)); have HO6 := Lib.hid hown6; have HG6 := Lib.hid hgrow6; clear hown6 hgrow6))
  all_goals
    go_wp2
    go_ret
    have hg : w.grownBy w6 none := ⟨HG6.out.os, HG6.out.tape, HG6.out.output, HG6.out.size, HG6.out.block⟩
    exact copy_born HD.out HQ.out HDAT.out hg (by rw [← HN.out]; exact HO6.out)
end
end Go.Proofs.Ytgnncbbfbhipaaa
