/-
  Contracts of the document's own RightParts.
-/
import Derived.Test.YtlilkcbhlinolaaDoorParts
namespace Go.Proofs.YtlilkcbhlinolaaDoor
open Go.ChangeShapes Go.WideShapes Go.ChangeAt Go.RowKit

theorem refParts_end (n : Nat) (total : Int) (x y z : Bool) (h1 : decide (1 ≤ (n : Int)) = x) (h2 : decide ((n : Int) ≤ 16) = y) (h3 : decide (total ≤ 4611686018427387903) = z) : (x && y && z) = (decide (1 ≤ (n : Int)) && decide ((n : Int) ≤ 16) && decide (total ≤ 4611686018427387903)) := by
  subst h1 h2 h3; rfl
set_option maxHeartbeats 4000000 in
theorem refRightParts_any (A : Option Addr) (n c B : Nat) (L : List Mu.Part) (total : Int) (w : World) (h : Ps w B A n L) (hB : B ≤ w.heap.size) (hn : n ≤ 9223372036854775807) :
    Calls Tryd.prog 11 #[.slice A n c, .int .i64 total] w fun e w' => e = .returned (.bool (Mu.right L total)) ∧ Below w.heap.size w w' := by
  have HL : Hid (L.length = n) := Lib.hid h.1
  have HC := Lib.hid h
  clear h
  go_enter Tryd.func11, Tryd.ntmps11
  go_wp2
  go_loopw [9] (fun i wr => ∃ k : Nat, k ≤ n ∧ i = .int .i64 k ∧ Hid ((L.take k).all (Mu.okP total) = true) ∧ Below w.heap.size w wr) (fun i _ => n - (intOf i).toNat)
  case atStart => exact ⟨0, by omega, rfl, Lib.hid rfl, Below.refl _ _⟩
  case round =>
    obtain ⟨k, hk, rfl, HT, HB⟩ := hrel
    by_cases hlt : k < n
    · have hkl : k < L.length := by rw [HL.out]; exact hlt
      have HP := HC.out.below (HB.mono hB)
      obtain ⟨b, off, rfl, hbB, hc⟩ := HP.2 (by omega)
      obtain ⟨e0, e1, A', c', e2, hlc, hbs⟩ := hc k hkl
      clear hc HP
      have HS := take_all_snoc (f := Mu.okP total) hkl
      have HF := fun h => all_of_take (f := Mu.okP total) hkl h
      generalize L[k] = p at *
      obtain ⟨pa, pb, body⟩ := p
      dsimp only at e0 e1 e2 hlc
      have cs := fun W => refRight_any pa pb W
      have HFH := fun (w1 : World) (o : Obj) (hb : Below (wr.alloc o).heap.size (wr.alloc o) w1) => (HB.alloc HB.size o).trans (hb.mono (by have := HB.size; simp; omega))
      have HFh := Lib.hid HFH
      have F3 := Lib.hid (Three.new wr (.int .i64 pa) (.int .i64 pb) (.slice A' body.length c') 43)
      clear HFH
      have HOK : Mu.okP total (pa, pb, body) = (Cr.spanB pa pb && !decide (total < pb) && (pb - pa == (body.length : Int))) := rfl
      rw [HOK] at HS HF
      have HSh := Lib.hid HS
      have HFb := Lib.hid HF
      clear HS HF HOK
      cases hs : Cr.spanB pa pb with
      | false =>
        rw [hs] at cs HFb
        go_wp2_with (go_at_call 26; refine (cs _).mono ?_; rintro e w1 ⟨rfl, hb⟩; replace HB := HFh.out _ _ hb; clear hb)
        go_ret
        refine ⟨ret_bool ?_, HB⟩
        unfold Mu.right; rw [HFb.out rfl]; rfl
      | true =>
        have hrange : 0 ≤ pa ∧ pa < pb ∧ pb ≤ 4611686018427387903 := by
          have := hs; unfold Cr.spanB at this; simp at this; omega
        obtain ⟨g1, g2, g3⟩ := hrange
        rw [hs] at cs HFb HSh
        cases ht : decide (total < pb) with
        | true =>
          rw [ht] at HFb
          go_wp2_with (go_at_call 26; refine (cs _).mono ?_; rintro e w1 ⟨rfl, hb⟩; replace HB := HFh.out _ _ hb; obtain ⟨n1, x1, y1, z1, _⟩ := F3.out.below hb; clear hb)
          go_ret
          refine ⟨ret_bool ?_, HB⟩
          unfold Mu.right; rw [HFb.out rfl]; rfl
        | false =>
          rw [ht] at HFb HSh
          cases hq : (pb - pa == (body.length : Int)) with
          | false =>
            rw [hq] at HFb
            have hq2 := ne_of hq
            go_wp2_with (go_at_call 26; refine (cs _).mono ?_; rintro e w1 ⟨rfl, hb⟩; replace HB := HFh.out _ _ hb; obtain ⟨n1, x1, y1, z1, _⟩ := F3.out.below hb; clear hb)
            go_ret
            refine ⟨ret_bool ?_, HB⟩
            unfold Mu.right; rw [HFb.out rfl]; rfl
          | true =>
            rw [hq] at HSh
            have hq2 := ne_of hq
            have HT2 : Hid ((L.take (k + 1)).all (Mu.okP total) = true) := Lib.hid (by rw [HSh.out, HT.out]; rfl)
            go_wp2_with (go_at_call 26; refine (cs _).mono ?_; rintro e w1 ⟨rfl, hb⟩; replace HB := HFh.out _ _ hb; obtain ⟨n1, x1, y1, z1, _⟩ := F3.out.below hb; clear hb)
            go_roundw
            case rel => exact ⟨k + 1, by omega, by go_num, HT2, HB⟩
            case measure => simp [intOf]; omega
    · have HA : Hid (L.all (Mu.okP total) = true) := Lib.hid (by have := HT.out; rwa [List.take_of_length_le (by rw [HL.out]; omega)] at this)
      have hfin := refParts_end n total
      cases h1 : decide (1 ≤ (n : Int)) <;> cases h2 : decide ((n : Int) ≤ 16) <;> cases h3 : decide (total ≤ 4611686018427387903)
      all_goals
        go_wp2
        go_ret
        refine ⟨ret_bool ?_, HB⟩
        unfold Mu.right
        rw [HA.out, HL.out, Bool.true_and]
        exact hfin _ _ _ h1 h2 h3
end Go.Proofs.YtlilkcbhlinolaaDoor
