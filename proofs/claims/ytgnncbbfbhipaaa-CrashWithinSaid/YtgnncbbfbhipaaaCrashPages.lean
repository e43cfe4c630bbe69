/-
  The program's Pages: the places of the pages that are used, sorted.
-/
import Derived.Test.YtgnncbbfbhipaaaCrashLeft
import Derived.Test.YtgnncbbfbhipaaaFlashWrite
import Derived.Maps.AppendAt
import Derived.Deep.AppendLies
namespace Go.Proofs.Ytgnncbbfbhipaaa
open Go.ChangeShapes Go.WideShapes Go.ChangeAt Go.RowKit Fl
set_option maxRecDepth 100000

/-- what Pages gives: a row of the call's own -/
def PagesTo (R : List (Int × Int)) (w : World) (e : Ending) (w' : World) : Prop :=
  ∃ u, e = .returned u ∧ w'.ownsRow w.heap.size 44 2 u R.length (duos R) ∧ Below w.heap.size w w'
theorem row_le (M : List Pg) (s : Nat) : ∀ P, (row M s P).length ≤ P
  | 0 => Nat.le_refl _
  | P + 1 => by
    rw [row_succ, List.length_append]
    have := row_le M s P
    have : (row1 M s P).length ≤ 1 := by unfold row1; split <;> simp
    omega
theorem pgs_le (M : List Pg) (P : Nat) : ∀ S, (pgs M P S).length ≤ S * P
  | 0 => by rw [pgs_zero]; simp
  | S + 1 => by
    rw [pgs_succ, List.length_append]
    have := pgs_le M P S
    have := row_le M S P
    rw [Nat.succ_mul]
    omega
theorem own_slice2 {w : World} {base n : Nat} {T : TypeId} {size : Nat} {u : Value} {xs : List Value} (h : w.ownsRow base T size u n xs) : ∃ A c, u = .slice A n c := by
  rcases h.2 with ⟨rfl, h0⟩ | ⟨g, c, cur, rfl, _⟩
  · exact ⟨none, 0, by rw [h0]⟩
  · exact ⟨_, c, rfl⟩
theorem own_base {w : World} {base base' n : Nat} {T : TypeId} {size : Nat} {u : Value} {xs : List Value} (h : w.ownsRow base T size u n xs) (hb : base' ≤ base) : w.ownsRow base' T size u n xs := by
  refine ⟨h.1, ?_⟩
  rcases h.2 with h0 | ⟨g, c, cur, e, hg, r⟩
  · exact .inl h0
  · exact .inr ⟨g, c, cur, e, Nat.le_trans hb hg, r⟩
section
variable {k S P B db mb : Nat} {w : World} {v : Nat → Nat} {M : List Pg}
theorem pages_nil (w : World) : Calls Try.prog 13 #[.pointer none] w fun e w' => e = .returned nl ∧ Below w.heap.size w w' := by
  have hs := shape_nil w
  go_enter Try.func13, Try.ntmps13
  go_wp2_with (go_at_call 37; (with_reducible refine hs.mono ?_); rintro e w1 ⟨rfl, hb1⟩; have HB1 := Lib.hid hb1; clear hb1)
  go_loopw [3, 5, 6, 11] (fun u _ _ i wr => u = nl ∧ i = .int .i64 0 ∧ wr = w1.alloc (.cells #[.int .i64 0, .int .i64 0, .int .i64 0] 23)) (fun _ _ _ _ _ => 0)
  case atStart => exact ⟨rfl, rfl, rfl⟩
  case round =>
    obtain ⟨rfl, rfl, rfl⟩ := hrel
    go_wp2
    go_ret
    exact ⟨rfl, HB1.out.alloc HB1.out.size _⟩
set_option maxHeartbeats 4000000 in
theorem pages_any (h : Dev w v k S P B db mb M) : Calls Try.prog 13 #[.pointer (some ⟨db, 0, none⟩)] w (PagesTo (pgs M P S) w) := by
  obtain ⟨i0, hi, hz, hsz, hby⟩ := info_parts addr_info
  have HI := Lib.hid hi
  have HZ := Lib.hid hz
  have HSZ := Lib.hid hsz
  have HBY := Lib.hid hby
  clear hi hz hsz hby
  have hs := shape_any h
  have HD := Lib.hid h
  have HSH := Lib.hid h.shp
  have hS2 := h.shp.s2
  have hP2 := h.shp.p2
  clear h
  go_enter Try.func13, Try.ntmps13
  go_wp2_with (go_at_call 37; (with_reducible refine hs.mono ?_); rintro e w1 ⟨rfl, hb1⟩; have HB1 := Lib.hid (hb1.alloc hb1.size (.cells #[.int .i64 S, .int .i64 P, .int .i64 B] 23)); have T3 := Lib.hid (Three.new w1 (.int .i64 S) (.int .i64 P) (.int .i64 B) 23); have HL1 : Hid (w.heap.size ≤ w1.heap.size) := Lib.hid hb1.size; clear hb1 hs)
  have HZ0 : Hid (w1.heap.size < (w1.alloc (.cells #[.int .i64 S, .int .i64 P, .int .i64 B] 23)).heap.size) := Lib.hid (by simp)
  generalize (w1.alloc (.cells #[.int .i64 S, .int .i64 P, .int .i64 B] 23)) = w2 at *
  go_loopw [3, 5, 6, 11] (fun u _ _ i wr => ∃ a : Nat, a ≤ S ∧ i = .int .i64 a ∧ Hid (wr.ownsRow w2.heap.size 44 2 u (pgs M P a).length (duos (pgs M P a))) ∧ Hid (Below w2.heap.size w2 wr)) (fun _ _ _ i _ => S - (intOf i).toNat)
  case atStart => exact ⟨0, Nat.zero_le _, rfl, Lib.hid (World.ownsRow_nil _ _ _ _), Lib.hid (Below.refl _ _)⟩
  case round =>
    obtain ⟨a, ha, rfl, HO, HB2⟩ := hrel
    obtain ⟨-, k0, k1, k2, -⟩ := T3.out.below HB2.out
    by_cases hlt : a < S
    · have hal : (a : Int) < S := by omega
      have HOR : Hid (wr.ownsRow w2.heap.size 44 2 u3 ((pgs M P a) ++ row M a 0).length (duos ((pgs M P a) ++ row M a 0))) := by rw [row_zero, List.append_nil]; exact HO
      clear HO
      go_wp2
      go_loopw [3, 6, 16] (fun u _ i wr => ∃ b : Nat, b ≤ P ∧ i = .int .i64 b ∧ Hid (wr.ownsRow w2.heap.size 44 2 u ((pgs M P a) ++ row M a b).length (duos ((pgs M P a) ++ row M a b))) ∧ Hid (Below w2.heap.size w2 wr)) (fun _ _ i _ => P - (intOf i).toNat)
      case atStart => exact ⟨0, Nat.zero_le _, rfl, HOR, HB2⟩
      case round =>
        clear HOR HB2 k0 k1 k2
        obtain ⟨b, hb, rfl, HO, HB2⟩ := hrel
        obtain ⟨-, k0, k1, k2, -⟩ := T3.out.below HB2.out
        by_cases hlb : b < P
        · have hbl : (b : Int) < P := by omega
          have hwi : W64 (a : Int) := WalkArith.wf_i64 (by omega)
          have hwj : W64 (b : Int) := WalkArith.wf_i64 (by omega)
          have cu := used_any (HD.out.below (HB1.out.trans (HB2.out.mono HB1.out.size))) a b hwi hwj
          have HLEN : Hid ((pgs M P a ++ row M a b).length ≤ 1024 + 64) := Lib.hid (by
            rw [List.length_append]
            have h1 := pgs_le M P a
            have h2 := row_le M a b
            have h3 : a * P ≤ 16 * 64 := Nat.mul_le_mul (by omega) (by omega)
            omega)
          obtain ⟨A9, c9, rfl⟩ := own_slice2 HO.out
          cases hlk : (lk M a b).isSome with
          | false =>
            have HNX : Hid (pgs M P a ++ row M a (b + 1) = pgs M P a ++ row M a b) := Lib.hid (by rw [row_succ]; unfold row1; rw [hlk]; simp)
            rw [hlk] at cu
            clear hlk hwi hwj HLEN
            generalize pgs M P a ++ row M a b = R at *
            go_wp2_with (go_at_call 38; (with_reducible refine cu.mono ?_); rintro e w5 ⟨rfl, hb5⟩; have HB6 := Lib.hid (HB2.out.trans (hb5.mono HB2.out.size)); have HO5 := Lib.hid (own_belowN HO.out hb5); clear hb5 cu)
            go_roundw
            case rel => exact ⟨b + 1, by omega, by go_num, by rw [HNX.out]; exact HO5, HB6⟩
            case measure => simp [intOf]; omega
          | true =>
            have HNX : Hid (row M a (b + 1) = row M a b ++ [((a : Int), (b : Int))]) := Lib.hid (by rw [row_succ]; unfold row1; rw [hlk]; simp)
            rw [hlk] at cu
            clear hlk hwi hwj
            have HDU : Hid (duos (pgs M P a ++ row M a b) ++ [.int .i64 a, .int .i64 b] = duos (pgs M P a ++ row M a (b + 1)) ∧ (pgs M P a ++ row M a (b + 1)).length = (pgs M P a ++ row M a b).length + 1) := Lib.hid ⟨by
              rw [HNX.out, ← List.append_assoc, ← duos_append _ [((a : Int), (b : Int))]]; rfl, by rw [HNX.out, ← List.append_assoc, List.length_append]; rfl⟩
            have hlen := HLEN.out
            clear HLEN
            generalize pgs M P a ++ row M a b = R at *
            go_wp2_with (first
              | (go_at_call 38; (with_reducible refine cu.mono ?_); rintro e w5 ⟨rfl, hb5⟩; have HB6 := Lib.hid (HB2.out.trans (hb5.mono HB2.out.size)); have HO5 := Lib.hid (own_belowN HO.out hb5); clear hb5 cu)
              | (at_builtin; refine wpList_append_one (o := ⟨some 28, _, _, _, _, _⟩) rfl (.tmp 23) (.tmp 27) 38 rfl w2.heap.size 44 i0 _ 2 16 Try.underlying38 HI.out HZ.out HSZ.out HBY.out rfl (by decide) _ R.length (duos R) rfl (HO5.out.alloc _) ⟨w5.heap.size, 0, none⟩ 1 [.int .i64 a, .int .i64 b] rfl rfl (new_cells w5 _ #[.int .i64 a, .int .i64 b]) (by simp [Value.oneCell']) (by omega) (by omega) (by have := HB6.out.size; simp; omega) ?_; intro v6 w6 HO6 HG6))
            go_roundw
            case rel =>
              have hb6 := HB6.out.alloc HB6.out.size (.cells #[.int .i64 a, .int .i64 b] 44)
              have ho := HO6.out
              rw [HDU.out.1, ← HDU.out.2] at ho
              have hfar : ∀ q, (Value.slice A9 R.length c9).ownBlock = some q → w2.heap.size ≤ q := fun q hq => (HO5.out.lt q hq).1
              exact ⟨b + 1, by omega, by go_num, Lib.hid ho, Lib.hid (hb6.grown HG6.out hb6.size hfar)⟩
            case measure => simp [intOf]; omega
        · obtain rfl : b = P := by omega
          have HO9 : Hid (wr.ownsRow w2.heap.size 44 2 u3 (pgs M b (a + 1)).length (duos (pgs M b (a + 1)))) := by rw [pgs_succ]; exact HO
          go_wp2
          go_roundw
          case rel => exact ⟨a + 1, by omega, by go_num, HO9, HB2⟩
          case measure => simp [intOf]; omega
    · obtain rfl : a = S := by omega
      obtain ⟨A9, c9, rfl⟩ := own_slice2 HO.out
      go_wp2
      go_ret
      exact ⟨_, rfl, own_base HO.out HB1.out.size, HB1.out.trans (HB2.out.mono HB1.out.size)⟩
end
end Go.Proofs.Ytgnncbbfbhipaaa
