/-
  Contract of the document's own Seal.
-/
import Derived.Test.YtlkejbfogmadnaaCrcSeal
import Derived.Test.YtlkejbfogmadnaaBytesAppend
namespace Go.Proofs.Ytlkejbfogmadnaa
open Go.ChangeShapes Go.WideShapes Go.ChangeAt Go.RowKit

/-- some slice that reads as these bytes; nothing that was there has turned -/
def Told (w : World) (L : List UInt8) (e : Ending) (w' : World) : Prop :=
  ∃ A cap, e = .returned (.slice A L.length cap) ∧ Bs w' w'.heap.size A L.length L ∧ L.length ≤ cap ∧ Below w.heap.size w w'

theorem four_block (w : World) (s : Nat) (T : TypeId) :
    Bs (w.alloc (.cells #[.int .u8 ((s : Int) % 256), .int .u8 ((s : Int) / 256 % 256), .int .u8 ((s : Int) / 65536 % 256), .int .u8 ((s : Int) / 16777216 % 256)] T)) (w.heap.size + 1) (some ⟨w.heap.size, 0, none⟩) 4 (Cm.four s) := by
  refine ⟨rfl, fun _ => ⟨w.heap.size, 0, rfl, by omega, fun j hj => ?_⟩⟩
  rw [World.cell?_alloc_new]
  have h0 : (s : Int) % 256 = ((Cm.low s 0).toNat : Int) := by rw [← low_int, Int.pow_zero, Int.ediv_one]
  have h1 : (s : Int) / 256 % 256 = ((Cm.low s 8).toNat : Int) := by rw [← low_int]; rfl
  have h2 : (s : Int) / 65536 % 256 = ((Cm.low s 16).toNat : Int) := by rw [← low_int]; rfl
  have h3 : (s : Int) / 16777216 % 256 = ((Cm.low s 24).toNat : Int) := by rw [← low_int]; rfl
  rw [h0, h1, h2, h3]
  match j, hj with
  | 0, _ => rfl
  | 1, _ => rfl
  | 2, _ => rfl
  | 3, _ => rfl

set_option maxHeartbeats 400000 in
theorem refSeal_any (A : Option Addr) (n c : Nat) (l : List UInt8) (B : Nat) (w : World) (hs : Bs w B A n l) (hB : B ≤ w.heap.size) (hn : n ≤ 100000) :
    Calls Try.prog 15 #[.slice A n c] w (Told w (Cm.sealed l)) := by
  obtain ⟨i0, hi, hz, hsz, hby⟩ := info_parts u8_info
  have HI := Lib.hid hi
  have HZ := Lib.hid hz
  have HSZ := Lib.hid hsz
  have HBY := Lib.hid hby
  have HS := Lib.hid hs
  have hln : n ≤ 9223372036854775807 := by omega
  clear hi hz hsz hby hs
  go_enter Try.func15, Try.ntmps15
  go_wp2_with (first
    | (refine wpList_append_bytes (o := ⟨some 7, _, _, _, _, _⟩) rfl (.tmp 5) (.tmp 6) 22 rfl w.heap.size 5 i0 Try.underlying22 HI.out HZ.out HSZ.out HBY.out (.slice none 0 0) 0 [] rfl (World.ownsRow_nil _ _ _ _) B A n c l rfl HS.out (by omega) (Nat.le_refl _) ?_
       intro v1 w1 HO1 HG1
       have hb1 : Below w.heap.size w w1 := (Below.refl _ _).grown HG1.out (Nat.le_refl _) (by simp [Value.ownBlock]))
    | (go_at_call 9; refine (refSum_any A n c l B _ (HS.out.below (hb1.mono hB)) hln).mono ?_; rintro e w' ⟨rfl, rfl⟩)
    | (refine wpList_append_bytes (o := ⟨some 23, _, _, _, _, _⟩) rfl (.tmp 10) (.tmp 22) 22 rfl w.heap.size 5 i0 Try.underlying22 HI.out HZ.out HSZ.out HBY.out v1 (0 + n) ([] ++ l) rfl (HO1.out.alloc _) (w1.heap.size + 1) (some ⟨w1.heap.size, 0, none⟩) 4 4 (Cm.four (Cm.sum l)) rfl (four_block w1 (Cm.sum l) _) (by omega) ((hb1.alloc hb1.size _).size) ?_
       intro v2 w2 HO2 HG2))
  go_ret
  obtain ⟨A2, c2, rfl, hb2, hc2⟩ := own_bs HO2.out
  have e1 : 0 + n + 4 = (Cm.sealed l).length := by rw [Cm.sealed_length, HS.out.1]; omega
  have e2 : ([] ++ l) ++ Cm.four (Cm.sum l) = Cm.sealed l := rfl
  rw [e1, e2] at hb2
  rw [e1] at hc2
  rw [e1]
  refine ⟨A2, c2, rfl, hb2, hc2, ?_⟩
  refine (hb1.alloc hb1.size _).grown HG2.out ((hb1.alloc hb1.size _).size) fun k hk => ?_
  exact (HO1.out.lt k hk).1
end Go.Proofs.Ytlkejbfogmadnaa
