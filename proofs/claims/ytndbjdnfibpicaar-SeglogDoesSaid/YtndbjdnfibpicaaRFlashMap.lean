/-
  A map from places to slices, as the program's device has one: what it holds, as a function; the laws at its operations.
-/
import Derived.Test.YtndbjdnfibpicaaRChecked
import Derived.DeepKeys4
import Derived.Maps.OwnSet
import Derived.Maps.RangeWalk
import Derived.WalkKit
import Derived.ProofKit
namespace Go.Proofs.YtndbjdnfibpicaaR
open Go.ChangeShapes Go.WideShapes Go.ChangeAt Go.RowKit Go.Maps
set_option maxRecDepth 100000

theorem laidOut : laidOutB Try.prog = true := by kernel_rfl
theorem addrRow : (51 : TypeId) < Try.prog.types.size := of_decide_eq_true (by kernel_rfl)
theorem addrWide : (match Try.prog.underlying 51 with | some (.array _ _) | some (.struct _) => true | _ => false) = true := by rw [Try.underlying51]
theorem keyLaw : Keyed Try.prog 51 := Keyed.of_law (deep_law_laid laidOut (m := 3) (by omega) addrRow (by kernel_rfl) addrWide)
theorem cells51 : Try.prog.cellsOf 51 = 2 := by kernel_rfl
theorem cells3 : Try.prog.cellsOf 3 = 1 := by kernel_rfl
theorem addrKey : Try.prog.keyType 51 = true := by kernel_rfl
theorem zeroSlice (w : World) : (zeroValue 54).run Try.prog w = .ok (.slice none 0 0) w := by kernel_rfl

def kv (s p : Int) : Value := .agg #[.int .i64 s, .int .i64 p]
def kl (s p : Int) : Lit := .string (keyBytes [.int .i64 s, .int .i64 p])
abbrev W64 (x : Int) : Prop := (Lit.int .i64 x).wf = true
theorem sizeSucc : ∃ n, Try.prog.types.size = n + 1 := ⟨Try.prog.types.size - 1, (Nat.succ_pred_eq_of_pos (Nat.lt_of_le_of_lt (Nat.zero_le _) addrRow)).symm⟩
theorem key_of {s p : Int} (hs : W64 s) (hp : W64 p) : keyOf Try.prog 51 (kv s p) = some (kl s p) := by
  obtain ⟨n, hn⟩ := sizeSucc
  have hf : (Value.agg #[.int .i64 s, .int .i64 p]).formed Try.prog 51 = true := by simp [Value.formed, Try.underlying51, cells51]
  unfold keyOf kv kl
  rw [Try.underlying51]
  simp only [addrKey, hf, Bool.and_self, if_true, hn]
  simp [Program.keyLits, Try.underlying51, cells51, Value.cells, Try.underlying3, cells3, hs, hp]
theorem int_lits {n : Nat} {c : Value} {ls : List Lit} (h : Try.prog.keyLits (n + 1) 3 [c] = some ls) : ∃ x, c = .int .i64 x ∧ W64 x := by
  unfold Program.keyLits at h
  rw [Try.underlying3] at h
  cases c with
  | int q x =>
    dsimp only at h
    split at h
    · rename_i hq
      obtain ⟨rfl, hq⟩ := hq
      exact ⟨x, rfl, hq⟩
    · cases h
  | _ => cases h
theorem key_inv {key : Value} {l : Lit} (h : keyOf Try.prog 51 key = some l) : ∃ s p, key = kv s p ∧ W64 s ∧ W64 p ∧ l = kl s p := by
  obtain ⟨n, hn⟩ := sizeSucc
  have h0 := h
  unfold keyOf at h
  rw [Try.underlying51] at h
  simp only [addrKey, Bool.true_and, hn] at h
  split at h
  · rename_i hf
    have hagg : ∃ cs, key = .agg cs := by
      cases key <;> simp [Value.formed, Try.underlying51] at hf
      exact ⟨_, rfl⟩
    obtain ⟨cs, rfl⟩ := hagg
    have hc : cs.size = 2 := by simpa [Value.formed, Try.underlying51, cells51] using hf
    obtain ⟨l0⟩ := cs
    match l0, hc with
    | [c0, c1], _ =>
      unfold Program.keyLits at h
      rw [Try.underlying51] at h
      simp [cells51, Value.cells, cells3] at h
      cases h1 : Try.prog.keyLits (n + 1) 3 [c0] with
      | none => rw [h1] at h; simp at h
      | some l1 =>
        cases h2 : Try.prog.keyLits (n + 1) 3 [c1] with
        | none => rw [h1, h2] at h; simp at h
        | some l2 =>
          obtain ⟨s, rfl, hs⟩ := int_lits h1
          obtain ⟨p, rfl, hp⟩ := int_lits h2
          refine ⟨s, p, rfl, hs, hp, ?_⟩
          have := key_of hs hp
          unfold kv at this
          rw [h0] at this
          exact Option.some.inj this
  · cases h
theorem kl_key {s p : Int} (hs : W64 s) (hp : W64 p) : WideAt.IsKeyLit (kl s p) := keyLaw.key (key_of hs hp)
theorem kl_inj {s p s2 p2 : Int} (hs : W64 s) (hp : W64 p) (hs2 : W64 s2) (hp2 : W64 p2) (h : kl s p = kl s2 p2) : s = s2 ∧ p = p2 := by
  have h1 := keyLaw.inj (key_of hs hp) (by rw [h]; exact key_of hs2 hp2)
  simpa [kv] using h1

/-- an element is read as itself -/
def rdv (v : Value) : Option (DataW Value × List MemPlace) := some (.held v, [])
abbrev nl : Value := .slice none 0 0
def upd (f : Int → Int → Option Value) (s p : Int) (x : Option Value) : Int → Int → Option Value := fun s2 p2 => if s2 = s ∧ p2 = p then x else f s2 p2
/-- block mb is a map of cnt entries that holds just what f says -/
def Mp (w : World) (mb cnt : Nat) (f : Int → Int → Option Value) : Prop :=
  ∃ D : DataW Value, w.ownsMap Try.prog 51 rdv mb cnt D ∧ Maps.size D = cnt ∧ ∀ s p, W64 s → W64 p → Maps.has D (kl s p) = (f s p).isSome ∧ D.atKey (kl s p) (.held nl) = .held ((f s p).getD nl)

section
variable {w w' : World} {mb cnt : Nat} {f : Int → Int → Option Value} {s p : Int}
theorem Mp.lt (h : Mp w mb cnt f) : mb < w.heap.size := by obtain ⟨D, h1, _⟩ := h; exact h1.lt
theorem Mp.kept {row : Option Nat} (h : Mp w mb cnt f) (hg : w.grownBy w' row) (hne : some mb ≠ row) : Mp w' mb cnt f := by
  obtain ⟨D, h1, h2⟩ := h
  exact ⟨D, h1.kept hg hne, h2⟩
theorem Mp.made (w : World) : Mp (w.alloc (.map #[] 0)) w.heap.size 0 (fun _ _ => none) :=
  ⟨.map [], World.ownsMap_made _ _ _ _, rfl, fun _ _ _ _ => ⟨rfl, rfl⟩⟩
theorem Mp.congr {g : Int → Int → Option Value} (h : Mp w mb cnt f) (e : ∀ s p, W64 s → W64 p → f s p = g s p) : Mp w mb cnt g := by
  obtain ⟨D, h1, h2, h3⟩ := h
  exact ⟨D, h1, h2, fun s p hs hp => by rw [← e s p hs hp]; exact h3 s p hs hp⟩
theorem Mp.look (h : Mp w mb cnt f) (hs : W64 s) (hp : W64 p) (c : Bool) :
    (Instr.lookup 57 (.map (some mb)) (kv s p) c).run Try.prog w = .ok (if c then .tuple #[(f s p).getD nl, .bool (f s p).isSome] else (f s p).getD nl) w := by
  obtain ⟨D, h1, _, h3⟩ := h
  obtain ⟨e1, e2⟩ := h3 s p hs hp
  cases c
  · obtain ⟨v, ps, hrun, hv⟩ := h1.lookup keyLaw Try.underlying57 (zeroSlice w) (zd := .held nl) (zp := []) rfl (key_of hs hp)
    rw [e2] at hv
    unfold rdv at hv
    injection hv with hv
    injection hv with hv _
    injection hv with hv
    rw [hrun, hv]
    rfl
  · obtain ⟨v, ps, hrun, hv⟩ := h1.look_ok keyLaw Try.underlying57 (zeroSlice w) (zd := .held nl) (zp := []) rfl (key_of hs hp)
    rw [e2] at hv
    unfold rdv at hv
    injection hv with hv
    injection hv with hv _
    injection hv with hv
    rw [hrun, hv, e1]
    rfl
theorem shrink {n : Nat} {D : DataW Value} (h : w.ownsMap Try.prog 51 rdv mb n D) : w.ownsMap Try.prog 51 rdv mb (Maps.size D) D := by
  obtain ⟨es, clock, hb, F, hs, rfl⟩ := h
  exact ⟨es, clock, hb, F, by rw [Maps.size_eq, length_sorted]; simp, rfl⟩
theorem Mp.store (h : Mp w mb cnt f) (hs : W64 s) (hp : W64 p) (hn : cnt < maxLen) (x : Value) :
    ∃ w', (Instr.mapUpdate 57 (.map (some mb)) (kv s p) x).run Try.prog w = .ok () w' ∧ w.mapTurned w' mb ∧ Mp w' mb (if (f s p).isSome then cnt else cnt + 1) (upd f s p (some x)) := by
  obtain ⟨D, h1, h2, h3⟩ := h
  obtain ⟨w', hrun, r1, r2⟩ := h1.store keyLaw Try.underlying57 hn (val := x) (d := .held x) (ps := []) (key_of hs hp) rfl
  have hsz := Maps.size_put (k := kl s p) (h1.tidy keyLaw) (.held x)
  rw [(h3 s p hs hp).1, h2] at hsz
  refine ⟨w', hrun, r2, D.put (kl s p) (.held x), ?_, hsz, fun s2 p2 hs2 hp2 => ?_⟩
  · have := shrink r1
    rw [hsz] at this
    exact this
  · unfold upd
    by_cases e : s2 = s ∧ p2 = p
    · obtain ⟨rfl, rfl⟩ := e
      rw [if_pos ⟨rfl, rfl⟩]
      exact ⟨Maps.has_put_same h1.isMap (kl_key hs hp) _, Maps.atKey_put_same h1.isMap (kl_key hs hp) _ _⟩
    · rw [if_neg e]
      have hne : kl s2 p2 ≠ kl s p := fun e2 => e (kl_inj hs2 hp2 hs hp e2)
      rw [Maps.has_put_other hne, Maps.atKey_put_other hne]
      exact h3 s2 p2 hs2 hp2
theorem Mp.drop (h : Mp w mb cnt f) (hs : W64 s) (hp : W64 p) (ty : TypeId) :
    ∃ w', (Builtin.delete_ #[57, 51] ty #[.map (some mb), kv s p]).run Try.prog w = .ok (.tuple #[]) w' ∧ w.mapTurned w' mb ∧ Mp w' mb (if (f s p).isSome then cnt - 1 else cnt) (upd f s p none) := by
  obtain ⟨D, h1, h2, h3⟩ := h
  obtain ⟨w', hrun, r1, r2⟩ := h1.drop keyLaw Try.underlying57 (key_of hs hp) ty
  have hsz := Maps.size_del (k := kl s p) (h1.tidy keyLaw)
  rw [(h3 s p hs hp).1, h2] at hsz
  have hsz2 : Maps.size (D.del (kl s p)) = if (f s p).isSome then cnt - 1 else cnt := by split <;> simp_all; omega
  refine ⟨w', hrun, r2, D.del (kl s p), ?_, hsz2, fun s2 p2 hs2 hp2 => ?_⟩
  · have := shrink r1
    rw [hsz2] at this
    exact this
  · unfold upd
    by_cases e : s2 = s ∧ p2 = p
    · obtain ⟨rfl, rfl⟩ := e
      rw [if_pos ⟨rfl, rfl⟩]
      exact ⟨Maps.has_del_same, Maps.atKey_del_same _⟩
    · rw [if_neg e]
      have hne : kl s2 p2 ≠ kl s p := fun e2 => e (kl_inj hs2 hp2 hs hp e2)
      rw [Maps.has_del_other hne, Maps.atKey_del_other hne]
      exact h3 s2 p2 hs2 hp2
end

/-! at the operations -/
section
variable (w : World) {o : Oper} {a : Act} {K : Act → World → Prop} {Q : Exit → Act → World → Prop} {ops : Array Oper} {rest : List Oper} {E : Prop} {mb cnt : Nat} {f : Int → Int → Option Value} {s p : Int}
theorem wp_store_mp (m x v : Operand) (hop : o.op = Op.mapUpdate 57 m x v) (hm : a.eval m = .map (some mb)) (hx : a.eval x = kv s p) (val : Value) (hv : a.eval v = val)
    (h : Mp w mb cnt f) (hs : W64 s) (hp : W64 p) (hn : cnt < maxLen)
    (hK : ∀ w', w.mapTurned w' mb → Mp w' mb (if (f s p).isSome then cnt else cnt + 1) (upd f s p (some val)) → K (a.put o.dst undef) w') : o.wp Try.prog a w K Q := by
  obtain ⟨w', hrun, h1, h2⟩ := h.store hs hp hn val
  unfold Oper.wp
  simp [execOp, hop, hm, hx, hv, hrun, Result.andThen]
  exact hK _ h1 h2
theorem wp_drop_mp (m x : Operand) (hop : o.op = Op.call { callee := Callee.builtin Builtin.delete, args := #[m, x], argTypes := #[57, 51] }) (hm : a.eval m = .map (some mb)) (hx : a.eval x = kv s p)
    (h : Mp w mb cnt f) (hs : W64 s) (hp : W64 p)
    (hK : ∀ w', w.mapTurned w' mb → Mp w' mb (if (f s p).isSome then cnt - 1 else cnt) (upd f s p none) → K (a.put o.dst (.tuple #[])) w') : o.wp Try.prog a w K Q := by
  obtain ⟨w', hrun, h1, h2⟩ := h.drop hs hp o.type
  unfold Oper.wp
  simp [execOp, hop, resolve, invoke, builtin, hm, hx, hrun, Result.andThen]
  exact hK _ h1 h2
theorem wp_look_mp (m x : Operand) (c : Bool) (hop : o.op = Op.lookup 57 m x c) (hm : a.eval m = .map (some mb)) (hx : a.eval x = kv s p)
    (h : Mp w mb cnt f) (hs : W64 s) (hp : W64 p)
    (hK : K (a.put o.dst (if c then .tuple #[(f s p).getD nl, .bool (f s p).isSome] else (f s p).getD nl)) w) : o.wp Try.prog a w K Q := by
  have hrun := h.look hs hp c
  unfold Oper.wp
  cases c
  · simp only [Bool.false_eq_true, if_false] at hrun hK
    simp [execOp, hop, hm, hx, hrun, Result.andThen]
    exact hK
  · simp only [if_true] at hrun hK
    simp [execOp, hop, hm, hx, hrun, Result.andThen]
    exact hK
theorem wpList_store_mp (hg : o.guard = none) (m x v : Operand) (hop : o.op = Op.mapUpdate 57 m x v) (hm : a.eval m = .map (some mb)) (hx : a.eval x = kv s p) (val : Value) (hv : a.eval v = val)
    (h : Mp w mb cnt f) (hs : W64 s) (hp : W64 p) (hn : cnt < maxLen)
    (hK : ∀ w', w.mapTurned w' mb → Mp w' mb (if (f s p).isSome then cnt else cnt + 1) (upd f s p (some val)) → wpList Try.prog ops Q rest (a.put o.dst undef) w') : wpList Try.prog ops Q (o :: rest) a w :=
  wpList_plain hg fun _ hK' => wp_store_mp w m x v hop hm hx val hv h hs hp hn fun w' h1 h2 => hK' _ _ (hK w' h1 h2)
theorem step_store_mp (hg : o.guard = none) (m x v : Operand) (hop : o.op = Op.mapUpdate 57 m x v) (hm : a.eval m = .map (some mb)) (hx : a.eval x = kv s p) (val : Value) (hv : a.eval v = val)
    (h : Mp w mb cnt f) (hs : W64 s) (hp : W64 p) (hn : cnt < maxLen)
    (hK : ∀ w', w.mapTurned w' mb → Mp w' mb (if (f s p).isSome then cnt else cnt + 1) (upd f s p (some val)) → K (a.put o.dst undef) w') :
    if Region.wanted o (yielded ops a.tmps) = true then Oper.wp Try.prog o a w K Q else E := by
  rw [if_pos (by simp [Region.wanted, hg])]
  exact wp_store_mp w m x v hop hm hx val hv h hs hp hn hK
theorem step_drop_mp (hg : o.guard = none) (m x : Operand) (hop : o.op = Op.call { callee := Callee.builtin Builtin.delete, args := #[m, x], argTypes := #[57, 51] }) (hm : a.eval m = .map (some mb)) (hx : a.eval x = kv s p)
    (h : Mp w mb cnt f) (hs : W64 s) (hp : W64 p)
    (hK : ∀ w', w.mapTurned w' mb → Mp w' mb (if (f s p).isSome then cnt - 1 else cnt) (upd f s p none) → K (a.put o.dst (.tuple #[])) w') :
    if Region.wanted o (yielded ops a.tmps) = true then Oper.wp Try.prog o a w K Q else E := by
  rw [if_pos (by simp [Region.wanted, hg])]
  exact wp_drop_mp w m x hop hm hx h hs hp hK
theorem step_look_mp (hg : o.guard = none) (m x : Operand) (c : Bool) (hop : o.op = Op.lookup 57 m x c) (hm : a.eval m = .map (some mb)) (hx : a.eval x = kv s p)
    (h : Mp w mb cnt f) (hs : W64 s) (hp : W64 p)
    (hK : K (a.put o.dst (if c then .tuple #[(f s p).getD nl, .bool (f s p).isSome] else (f s p).getD nl)) w) :
    if Region.wanted o (yielded ops a.tmps) = true then Oper.wp Try.prog o a w K Q else E := by
  rw [if_pos (by simp [Region.wanted, hg])]
  exact wp_look_mp w m x c hop hm hx h hs hp hK
end
end Go.Proofs.YtndbjdnfibpicaaR
