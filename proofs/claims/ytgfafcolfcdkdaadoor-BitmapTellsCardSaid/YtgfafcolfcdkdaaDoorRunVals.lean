/-
  Runs as cells, three each; the document's look whether two rows of runs are alike, where they are.
-/
import Derived.Test.YtgfafcolfcdkdaaDoorChecked
import Derived.Test.YtgfafcolfcdkdaaDoorVals
import Derived.Test.YtgfafcolfcdkdaaDoorBitMath
import Derived.Test.YtgfafcolfcdkdaaDoorAppendCells
import Derived.LoopTactic
import Derived.Deep.QuietTactic
import Derived.BigQuiet
import Derived.Lib.Hide
import Derived.IntWalk
namespace Go.Proofs.YtgfafcolfcdkdaaDoor
open Go.ChangeShapes Go.WideShapes Go.ChangeAt Go.RowKit
set_option maxRecDepth 100000

/-- a run's cells, and those of a list -/
def cellsR (x : Bm.Run) : List Value := [.int .i64 x.1, .int .i64 x.2.1, .bool x.2.2]
def runV (L : List Bm.Run) : List Value := L.flatMap cellsR
theorem runV_nil : runV [] = [] := rfl
theorem runV_cons (x : Bm.Run) (L : List Bm.Run) : runV (x :: L) = .int .i64 x.1 :: .int .i64 x.2.1 :: .bool x.2.2 :: runV L := rfl
theorem runV_append (L M : List Bm.Run) : runV L ++ runV M = runV (L ++ M) := by simp [runV]
theorem runV_length (L : List Bm.Run) : (runV L).length = L.length * 3 := by
  induction L with
  | nil => rfl
  | cons x L ih => rw [runV_cons]; simp only [List.length_cons, ih]; omega
theorem runV_one (L : List Bm.Run) : ∀ u ∈ runV L, u.oneCell' = true := by
  intro u hu
  obtain ⟨x, _, hx⟩ := List.mem_flatMap.1 hu
  simp only [cellsR, List.mem_cons, List.not_mem_nil, or_false] at hx
  rcases hx with rfl | rfl | rfl <;> rfl
theorem runV_get : ∀ (L : List Bm.Run) (k : Nat) (h : k < L.length), (runV L)[k * 3]? = some (.int .i64 L[k].1) ∧ (runV L)[k * 3 + 1]? = some (.int .i64 L[k].2.1) ∧ (runV L)[k * 3 + 2]? = some (.bool L[k].2.2)
  | [], k, h => absurd h (by simp)
  | x :: L, 0, _ => ⟨rfl, rfl, rfl⟩
  | x :: L, k + 1, h => by
    have := runV_get L k (by simpa using h)
    rw [runV_cons]
    have e : (k + 1) * 3 = k * 3 + 1 + 1 + 1 := by omega
    rw [e]
    simpa using this
/-- a run's end is another one -/
theorem runV_set1 : ∀ (L : List Bm.Run) (k : Nat) (h : k < L.length) (y : Int), (runV L).set (k * 3 + 1) (.int .i64 y) = runV (L.set k (L[k].1, y, L[k].2.2))
  | [], k, h, _ => absurd h (by simp)
  | x :: L, 0, _, y => rfl
  | x :: L, k + 1, h, y => by
    have := runV_set1 L k (by simpa using h) y
    rw [runV_cons]
    have e : (k + 1) * 3 = k * 3 + 1 + 1 + 1 := by omega
    rw [e]
    simp only [List.set_cons_succ, this, runV_cons, List.getElem_cons_succ]
/-- n runs from the address on, all below block B -/
def Rs (w : World) (B : Nat) (A : Option Addr) (n : Nat) (L : List Bm.Run) : Prop := Vs w B A (n * 3) (runV L)
section
variable {w w' : World} {B n : Nat} {A : Option Addr} {L : List Bm.Run}
theorem Rs.len (h : Rs w B A n L) : L.length = n := by
  have := Vs.len h
  rw [runV_length] at this
  omega
theorem Rs.nil (w : World) (B : Nat) (A : Option Addr) : Rs w B A 0 [] := Vs.nil w B A
theorem Rs.below (h : Rs w B A n L) (hb : Below B w w') : Rs w' B A n L := Vs.below h hb
theorem Rs.mono (h : Rs w B A n L) {B' : Nat} (hB : B ≤ B') : Rs w B' A n L := Vs.mono h hB
/-- one of them, cell by cell -/
theorem Rs.at (h : Rs w B A n L) (h0 : 0 < n) : ∃ b off, A = some ⟨b, off, none⟩ ∧ b < B ∧ ∀ k (hk : k < L.length), w.cell? ⟨b, off + k * 3, none⟩ = some (.int .i64 L[k].1) ∧ w.cell? ⟨b, off + k * 3 + 1, none⟩ = some (.int .i64 L[k].2.1) ∧ w.cell? ⟨b, off + k * 3 + 2, none⟩ = some (.bool L[k].2.2) := by
  obtain ⟨b, off, e, hb, hc⟩ := h.2 (by omega)
  refine ⟨b, off, e, hb, fun k hk => ?_⟩
  have hl := runV_length L
  obtain ⟨g0, g1, g2⟩ := runV_get L k hk
  have c0 := hc (k * 3) (by omega)
  have c1 := hc (k * 3 + 1) (by omega)
  have c2 := hc (k * 3 + 2) (by omega)
  rw [List.getElem?_eq_getElem (by omega)] at g0 g1 g2
  rw [Option.some.inj g0] at c0
  rw [Option.some.inj g1, ← Nat.add_assoc] at c1
  rw [Option.some.inj g2, ← Nat.add_assoc] at c2
  exact ⟨c0, c1, c2⟩
end
def NoMoreR (w : World) (v : Value) (e : Ending) (w' : World) : Prop := e = .returned v ∧ ∃ m, w' = w.drewN m
set_option maxHeartbeats 1000000 in
theorem runs_same (A1 A2 : Option Addr) (n c1 c2 B : Nat) (L : List Bm.Run) (w : World) (h1 : Rs w B A1 n L) (h2 : Rs w B A2 n L) (hn : n ≤ 1000000000) :
    Calls Tryd.prog 21 #[.slice A1 n c1, .slice A2 n c2] w (NoMoreR w (.bool true)) := by
  have HL : Hid (L.length = n) := Lib.hid h1.len
  have C1 := Lib.hid h1
  have C2 := Lib.hid h2
  clear h1 h2
  have hne : ((n : Int) != (n : Int)) = false := by simp
  go_enter Tryd.func21, Tryd.ntmps21
  go_wp2
  go_loopw [13] (fun i wr => ∃ k m : Nat, k ≤ n ∧ i = .int .i64 k ∧ wr = w.drewN m) (fun i _ => n - (intOf i).toNat)
  case atStart => exact ⟨0, 0, by omega, rfl, rfl⟩
  case round =>
    obtain ⟨k, m, hk, rfl, rfl⟩ := hrel
    clear hne
    by_cases hlt : k < n
    · obtain ⟨b1, o1, rfl, hB1, hc1⟩ := C1.out.at (by omega)
      obtain ⟨b2, o2, rfl, hB2, hc2⟩ := C2.out.at (by omega)
      have hkl : k < L.length := by rw [HL.out]; exact hlt
      obtain ⟨d0, d1, d2⟩ := hc1 k hkl
      obtain ⟨e0, e1, e2⟩ := hc2 k hkl
      generalize L[k] = r at d0 d1 d2 e0 e1 e2
      obtain ⟨x, y, q⟩ := r
      dsimp only at d0 d1 d2 e0 e1 e2
      have hxx : (x == x) = true := by simp
      have hyy : (y == y) = true := by simp
      have hqq : (q == q) = true := by simp
      clear hc1 hc2 C1 C2 HL hkl
      go_wp2
      go_quiet (fail)
      go_wp2
      go_roundw
      case rel => exact ⟨k + 1, _, by omega, by go_num, rfl⟩
      case measure => simp [intOf]; omega
    · go_wp2
      go_ret
      exact ⟨rfl, m, rfl⟩
end Go.Proofs.YtgfafcolfcdkdaaDoor
