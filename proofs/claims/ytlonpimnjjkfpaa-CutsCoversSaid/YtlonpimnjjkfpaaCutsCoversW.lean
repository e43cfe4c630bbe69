/-
  The walk of CutsCovers.
-/
import Derived.Test.YtlonpimnjjkfpaaCutsForms
import Derived.Test.YtlonpimnjjkfpaaRefInts
namespace Go.Proofs.Ytlonpimnjjkfpaa
open Go.ChangeShapes Go.WideShapes Go.ChangeAt Go.RowKit

/-- what Cover is asked, of lists that are not too long -/
def CutsCoverFew : Prop := ∀ (A : Option Addr) (n c B : Nat) (L : List (Int × Int)) (N S : Int) (W : World), Sps W B A n L → B ≤ W.heap.size → n ≤ 1000000 → Calls Try.prog 18 #[.slice A n c, .int .i64 N, .int .i64 S] W (CovTo (Cu.cover L N S (Cu.cnt N S).toNat) W)
theorem cutsCovers_on (hbd : CutsBounds) (hcv : CutsCoverFew) (A : Option Addr) (n c : Nat) (L : List (Int × Int)) (N S : Int) (w : World) (h : Sps w w.heap.size A n L) :
    Calls Try.prog 4 #[.slice A n c, .int .i64 N, .int .i64 S] w fun e w' => e = .returned (.bool true) ∧ Below w.heap.size w w' := by
  have ca := fun W => cuts_awake hbd W
  have HB := Lib.hid (Below.refl w.heap.size w)
  by_cases hq : 20 < n
  · have hq2 : (20 : Int) < n := by omega
    go_enter Try.func4, Try.ntmps4
    go_wp2_with (go_at_call 6; refine (ca _).mono ?_; rintro e w1 ⟨rfl, hb⟩; replace HB := Lib.hid (HB.out.trans (hb.mono HB.out.size)); clear hb ca)
    go_ret
    exact ⟨rfl, HB.out⟩
  · have hq2 : (n : Int) ≤ 20 := by omega
    have cc := fun W (hb : Below w.heap.size w W) => hcv A n c w.heap.size L N S W (h.below hb) hb.size (by omega)
    have cr := fun W (hb : Below w.heap.size w W) => refCover_any A n c w.heap.size L N S W (h.below hb) hb.size (by omega)
    have hl := Cu.cover_le L N S (Cu.cnt N S).toNat
    have hk := (Cu.cnt_le N S).2
    have hm : (Cu.cover L N S (Cu.cnt N S).toNat).length ≤ 9223372036854775807 := by omega
    generalize Cu.cover L N S (Cu.cnt N S).toNat = l at *
    clear hl hk hbd hcv h
    go_enter Try.func4, Try.ntmps4
    go_wp2_with (first
      | (go_at_call 6; refine (ca _).mono ?_; rintro e w1 ⟨rfl, hb⟩; replace HB := Lib.hid (HB.out.trans (hb.mono HB.out.size)); clear hb ca)
      | (go_at_call 18; refine (cc _ HB.out).mono ?_; rintro e w2 ⟨A1, c1, rfl, hv1, hc1, hb⟩; have HV := Lib.hid hv1; replace HB := Lib.hid (HB.out.trans (hb.mono HB.out.size)); clear hb hc1 hv1 cc)
      | (go_at_call 19; refine (cr _ HB.out).mono ?_; rintro e w3 ⟨A2, c2, rfl, hv2, hc2, hb⟩; have HV2 := Lib.hid hv2; replace HV := Lib.hid ((HV.out.below hb).mono hb.size); replace HB := Lib.hid (HB.out.trans (hb.mono HB.out.size)); clear hb hc2 hv2 cr)
      | (go_at_call 17; refine (ints_same _ _ _ _ _ _ l _ HV.out HV2.out hm).mono ?_; rintro e w4 ⟨rfl, m, rfl⟩))
    go_ret
    exact ⟨rfl, below_drewN HB.out _⟩
end Go.Proofs.Ytlonpimnjjkfpaa
