/-
  slices.Clone: of bytes, of places.
-/
import Derived.Test.YtgnncbbfbhipaaaFlashMem
import Derived.Test.YtgnncbbfbhipaaaBytesAppend
import Derived.Test.YtgnncbbfbhipaaaMakeBytes
import Derived.Outline
import Derived.Lib.Hide
import Derived.OwnWalk
namespace Go.Proofs.Ytgnncbbfbhipaaa
open Go.ChangeShapes Go.WideShapes Go.ChangeAt Go.RowKit Fl
set_option maxRecDepth 100000

theorem addr_info : (Try.prog.info? 44).map (fun i => (i.zero, i.size, i.bytes)) = some (some (.agg #[.int .i64 0, .int .i64 0]), 2, 16) := by kernel_rfl
theorem page_info : (Try.prog.info? 48).map (fun i => (i.zero, i.size, i.bytes)) = some (some (.agg #[.int .i64 0, .int .i64 0, .slice none 0 0, .bool false]), 4, 48) := by kernel_rfl

theorem bytesNil (A : Option Addr) (n c : Nat) (w : World) : (binOp BinOp.eql 46 (.slice A n c) (.slice none 0 0)).run Try.prog w = .ok (.bool A.isNone) w := by
  cases A <;> kernel_rfl
theorem addrsNil (A : Option Addr) (n c : Nat) (w : World) : (binOp BinOp.eql 38 (.slice A n c) (.slice none 0 0)).run Try.prog w = .ok (.bool A.isNone) w := by
  cases A <;> kernel_rfl
theorem mapNil (A : Option Nat) (w : World) : (binOp BinOp.neq 82 (.map A) (.map none)).run Try.prog w = .ok (.bool A.isSome) w := by
  cases A <;> kernel_rfl
theorem devNil (A : Option Addr) (w : World) : (binOp BinOp.neq 31 (.pointer A) (.pointer none)).run Try.prog w = .ok (.bool A.isSome) w := by
  cases A <;> kernel_rfl
theorem devNil2 (A : Option Addr) (w : World) : (binOp BinOp.eql 31 (.pointer A) (.pointer none)).run Try.prog w = .ok (.bool A.isNone) w := by
  cases A <;> kernel_rfl

/-- bytes of their own, all that is new -/
def CloneTo (l : List UInt8) (w : World) (e : Ending) (w' : World) : Prop :=
  ∃ A c, e = .returned (.slice A l.length c) ∧ l.length ≤ c ∧ Bs w' w'.heap.size A l.length l ∧ (A = none → c = 0) ∧ (∀ a, A = some a → w.heap.size ≤ a.block) ∧ Below w.heap.size w w'
theorem cloneBytes_nil (w : World) : Calls Try.prog 52 #[.slice none 0 0] w fun e w' => e = .returned (.slice none 0 0) ∧ w' = w := by
  have hq := bytesNil
  go_enter Try.func52, Try.ntmps52
  go_wp2
  go_ret
  exact ⟨rfl, rfl⟩
theorem cloneBytes_some (ad : Addr) (n c B : Nat) (l : List UInt8) (w : World) (h : Bs w B (some ad) n l) (hB : B ≤ w.heap.size) (hn : n ≤ 100000) :
    Calls Try.prog 52 #[.slice (some ad) n c] w (CloneTo l w) := by
  obtain ⟨i0, hi, hz, hsz, hby⟩ := info_parts u8_info
  have HI := Lib.hid hi
  have HZ := Lib.hid hz
  have HSZ := Lib.hid hsz
  have HBY := Lib.hid hby
  clear hi hz hsz hby
  have HS := Lib.hid h
  have HL : Hid (l.length = n) := Lib.hid h.1
  clear h
  have hq := bytesNil
  go_enter Try.func52, Try.ntmps52
  go_wp2_with (at_builtin; refine wpList_append_bytes (o := ⟨some 7, _, _, _, _, _⟩) rfl (.tmp 5) (.tmp 6) 46 rfl w.heap.size 5 i0 Try.underlying46 HI.out HZ.out HSZ.out HBY.out _ 0 [] rfl (World.ownsRow_lit (base := w.heap.size) (e := 5) (size := 1) w #[] 0 (Nat.le_refl _) (by simp) rfl) B (some ad) n c l rfl (HS.out.below ((Below.refl B w).alloc hB _)) (by omega) (by simp) ?_; intro v' w' HO HG)
  go_ret
  have ho := HO.out
  rw [Nat.zero_add, List.nil_append] at ho
  obtain ⟨A, cap, rfl, hbs, hc⟩ := own_bs ho
  have hl := HL.out
  subst hl
  have hb : Below w.heap.size w w' := ((Below.refl _ _).alloc (Nat.le_refl _) _).grown HG.out (by simp) (fun q hq => by injection hq with hq; exact Nat.le_of_eq hq)
  refine ⟨A, cap, rfl, hc, hbs, fun e => ?_, fun a ha => ?_, hb⟩
  · subst e
    rcases ho.2 with ⟨h1, _⟩ | ⟨_, _, _, h1, _⟩
    · injection h1
    · injection h1 with h1
      cases h1
  · subst ha
    exact (ho.lt _ rfl).1
theorem cloneBytes_any {x : Value} {l : List UInt8} {w : World} (h : Sl w x l) (hn : l.length ≤ 100000) : Calls Try.prog 52 #[x] w (CloneTo l w) := by
  obtain ⟨A, c, rfl, hc, hb, hno⟩ := h
  cases A with
  | none =>
    obtain rfl : c = 0 := hno rfl
    obtain rfl : l = [] := List.eq_nil_of_length_eq_zero (by omega)
    refine (cloneBytes_nil w).mono ?_
    rintro e w' ⟨rfl, rfl⟩
    exact ⟨none, 0, rfl, Nat.le_refl _, Bs.nil _ _ _, fun _ => rfl, fun _ ha => (nomatch ha), Below.refl _ _⟩
  | some ad => exact cloneBytes_some ad _ c _ l w hb (Nat.le_refl _) hn

/-- places of their own -/
def CloneATo (D : List (Int × Int)) (w : World) (e : Ending) (w' : World) : Prop :=
  ∃ u, e = .returned u ∧ w'.ownsRow w.heap.size 44 2 u D.length (duos D) ∧ Below w.heap.size w w'
theorem cloneAddrs_nil (w : World) : Calls Try.prog 53 #[.slice none 0 0] w fun e w' => e = .returned (.slice none 0 0) ∧ w' = w := by
  have hq := addrsNil
  go_enter Try.func53, Try.ntmps53
  go_wp2
  go_ret
  exact ⟨rfl, rfl⟩
theorem cloneAddrs_any {u : Value} {D : List (Int × Int)} {w : World} (h : w.ownsRow 0 44 2 u D.length (duos D)) (hn : D.length ≤ 100000) :
    Calls Try.prog 53 #[u] w (CloneATo D w) := by
  rcases h.2 with ⟨rfl, h0⟩ | ⟨g, c, cur, rfl, hrest⟩
  · obtain rfl : D = [] := List.eq_nil_of_length_eq_zero h0
    refine (cloneAddrs_nil w).mono ?_
    rintro e w' ⟨rfl, rfl⟩
    exact ⟨_, rfl, World.ownsRow_nil _ _ _ _, Below.refl _ _⟩
  obtain ⟨i0, hi, hz, hsz, hby⟩ := info_parts addr_info
  have HI := Lib.hid hi
  have HZ := Lib.hid hz
  have HSZ := Lib.hid hsz
  have HBY := Lib.hid hby
  clear hi hz hsz hby hrest
  have HS := Lib.hid h
  have hlt : g < w.heap.size := (h.lt g rfl).2
  have HC : Hid (∀ j x, (duos D)[j]? = some x → (w.alloc (.cells #[] 44)).cell? ((⟨g, 0, none⟩ : Addr).add j) = some x) := Lib.hid fun j x hx => by
    have := h.cells rfl j x hx
    rw [← this]
    have hb2 : ((⟨g, 0, none⟩ : Addr).add j).block < w.heap.size := by rw [block_of_add]; exact hlt
    exact World.cell?_of_block (Below.heap_alloc w _ _ hb2)
  clear h
  have hq := addrsNil
  go_enter Try.func53, Try.ntmps53
  go_wp2_with (at_builtin; refine wpList_append_own _ rfl (.tmp 5) (.tmp 6) 38 rfl w.heap.size 44 i0 _ 2 16 Try.underlying38 HI.out HZ.out HSZ.out HBY.out rfl (by decide) _ 0 [] rfl (World.ownsRow_lit (base := w.heap.size) (e := 44) (size := 2) w #[] 0 (Nat.le_refl _) (by simp) rfl) ⟨g, 0, none⟩ D.length c (duos D) rfl (duos_length D) HC.out (duos_one D) ?h1 ?h2 ?h3 ?_; (case h1 => unfold maxLen; omega); (case h2 => omega); (case h3 => simp); intro v' w' hown hgrow hnil)
  go_ret
  have hb : Below w.heap.size w w' := ((Below.refl _ _).alloc (Nat.le_refl _) _).grown hgrow (by simp) (fun q hq => by injection hq with hq; exact Nat.le_of_eq hq)
  exact ⟨_, rfl, by simpa using hown, hb⟩
end Go.Proofs.Ytgnncbbfbhipaaa
