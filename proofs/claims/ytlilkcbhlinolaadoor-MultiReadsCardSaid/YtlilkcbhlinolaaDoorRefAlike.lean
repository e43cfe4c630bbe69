/-
  Contract of the document's own Parts: two rows of parts that are alike; its Multi, put together.
-/
import Derived.Test.YtlilkcbhlinolaaDoorRefMulti
import Derived.Test.YtlilkcbhlinolaaDoorRefBytes
import Derived.Test.YtlilkcbhlinolaaDoorRefToken
import Derived.Deep.RegionHeld3
namespace Go.Proofs.YtlilkcbhlinolaaDoor
open Go.ChangeShapes Go.WideShapes Go.ChangeAt Go.RowKit

/-- six cells as they lie, in a world that only drew -/
def Six (w : World) (b1 o1 b2 o2 k : Nat) (pa pb : Int) (n : Nat) (A3 : Option Addr) (c3 : Nat) (A4 : Option Addr) (c4 : Nat) (w' : World) : Prop :=
  (∃ m, w' = w.drewN m) ∧ w'.cell? ⟨b1, o1 + k * 3, none⟩ = some (.int .i64 pa) ∧ w'.cell? ⟨b1, o1 + k * 3 + 1, none⟩ = some (.int .i64 pb) ∧ w'.cell? ⟨b1, o1 + k * 3 + 2, none⟩ = some (.slice A3 n c3) ∧
    w'.cell? ⟨b2, o2 + k * 3, none⟩ = some (.int .i64 pa) ∧ w'.cell? ⟨b2, o2 + k * 3 + 1, none⟩ = some (.int .i64 pb) ∧ w'.cell? ⟨b2, o2 + k * 3 + 2, none⟩ = some (.slice A4 n c4)
set_option maxHeartbeats 2000000 in
theorem refParts_same (A1 A2 : Option Addr) (n c1 c2 B : Nat) (L : List Mu.Part) (w : World) (h1 : Ps w B A1 n L) (h2 : Ps w B A2 n L) (hn : n ≤ 9223372036854775807) (hl : ∀ p ∈ L, p.2.2.length ≤ 140737488355328) :
    Calls Tryd.prog 15 #[.slice A1 n c1, .slice A2 n c2] w (NoMore w (.bool true)) := by
  have HL : Hid (L.length = n) := Lib.hid h1.1
  have C1 := Lib.hid h1.2
  have C2 := Lib.hid h2.2
  have HM := Lib.hid hl
  clear h1 h2 hl
  have hne : ((n : Int) != (n : Int)) = false := by simp
  go_enter Tryd.func15, Tryd.ntmps15
  go_wp2
  go_loopw [13] (fun i wr => ∃ k m : Nat, k ≤ n ∧ i = .int .i64 k ∧ wr = w.drewN m) (fun i _ => n - (intOf i).toNat)
  case atStart => exact ⟨0, 0, by omega, rfl, rfl⟩
  case round =>
    obtain ⟨k, m, hk, rfl, rfl⟩ := hrel
    clear hne
    by_cases hlt : k < n
    · obtain ⟨b1, o1, rfl, hB1, hc1⟩ := C1.out (by omega)
      obtain ⟨b2, o2, rfl, hB2, hc2⟩ := C2.out (by omega)
      have hkl : k < L.length := by rw [HL.out]; exact hlt
      obtain ⟨e0, e1, A3, c3, e2, _, hb3⟩ := hc1 k hkl
      obtain ⟨f0, f1, A4, c4, f2, _, hb4⟩ := hc2 k hkl
      have hbl := HM.out _ (List.getElem_mem hkl)
      generalize L[k] = p at *
      obtain ⟨pa, pb, body⟩ := p
      dsimp only at e0 e1 e2 f0 f1 f2 hb3 hb4 hbl
      have cb := fun (m : Nat) => bytes_same A3 A4 body.length c3 c4 B body (w.drewN m) (hb3.drewN m) (hb4.drewN m) (by omega)
      clear hc1 hc2 C1 C2 HL HM hkl hb3 hb4
      go_wp2
      have hQ : Six w b1 o1 b2 o2 k pa pb body.length A3 c3 A4 c4 (w.drewN m).drew := ⟨⟨m + 1, rfl⟩, e0, e1, e2, f0, f1, f2⟩
      go_region_held3 (fun w' => (∃ m, w' = w.drewN m) ∧ w'.cell? ⟨b1, o1 + k * 3, none⟩ = some (.int .i64 pa) ∧ w'.cell? ⟨b1, o1 + k * 3 + 1, none⟩ = some (.int .i64 pb) ∧ w'.cell? ⟨b1, o1 + k * 3 + 2, none⟩ = some (.slice A3 body.length c3) ∧
          w'.cell? ⟨b2, o2 + k * 3, none⟩ = some (.int .i64 pa) ∧ w'.cell? ⟨b2, o2 + k * 3 + 1, none⟩ = some (.int .i64 pb) ∧ w'.cell? ⟨b2, o2 + k * 3 + 2, none⟩ = some (.slice A4 body.length c4)) (first | exact hQ | exact ⟨⟨_, rfl⟩, e0, e1, e2, f0, f1, f2⟩)
        (first | (go_at_call 12; refine (cb _).mono ?_; rintro e w' ⟨rfl, m2, rfl⟩) | fail)
      go_wp2
      go_roundw
      case rel => exact ⟨k + 1, _, by omega, by go_num, rfl⟩
      case measure => simp [intOf]; omega
    · go_wp2
      go_ret
      exact ⟨rfl, m, rfl⟩

theorem refMulti_any (A : Option Addr) (n c B : Nat) (L : List Mu.Part) (total : Int) (U : ByteArray) (w : World) (h : Ps w B A n L) (hB : B ≤ w.heap.size) (hn : n ≤ 9223372036854775807) (hU : U.size ≤ 9223372036854775807) (hf : Mu.bulk L ≤ 100000) :
    Calls Tryd.prog 9 #[.slice A n c, .int .i64 total, .string U] w
      (MulTo (Mu.may U.data.toList && Mu.right L total) (if Mu.may U.data.toList && Mu.right L total then Mu.put L total U.data.toList else []) w) := by
  have ct := fun W => refToken_any U W hU
  have cr := fun W (hb : Below w.heap.size w W) => refRightParts_any A n c B L total W (h.below (hb.mono hB)) (Nat.le_trans hB hb.size) hn
  have hm : Mu.may U.data.toList = (Tx.token U.data.toList && decide ((U.size : Int) ≤ 40)) := by unfold Mu.may; rw [size_list]
  cases hok : Mu.may U.data.toList && Mu.right L total with
  | true =>
    rw [if_pos rfl]
    rw [hm, Bool.and_eq_true, Bool.and_eq_true] at hok
    obtain ⟨⟨h1, h2⟩, h3⟩ := hok
    rw [h1] at ct
    rw [h3] at cr
    have hs := of_decide_eq_true h2
    have hn16 : n ≤ 16 := by
      unfold Mu.right at h3
      rw [h.1] at h3
      simp only [Bool.and_eq_true, decide_eq_true_eq] at h3
      omega
    exact refMulti_yes A n c B L total U w h hB hn16 (by omega) hf ct cr
  | false =>
    rw [if_neg (by decide)]
    refine refMulti_no A n c total U _ (decide ((U.size : Int) ≤ 40)) _ w (by rw [← hm]; exact hok) ?_ ct cr
    by_cases hs : (U.size : Int) ≤ 40
    · rw [decide_eq_true hs, decide_eq_false (by omega)]; rfl
    · rw [decide_eq_false hs, decide_eq_true (by omega)]; rfl
end Go.Proofs.YtlilkcbhlinolaaDoor
