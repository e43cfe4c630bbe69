/-
  All: the numbers of a map, as an iterator hands them out (over a program of 65 words).
-/
import Derived.Test.YtcmhodimkpkmbaaDoorItsF
import Derived.Test.YtcmhodimkpkmbaaDoorBitLen
namespace Go.Proofs.YtcmhodimkpkmbaaDoor
open Go.ChangeShapes Go.WideShapes Go.ChangeAt Go.RowKit Go.Shelf
set_option maxRecDepth 100000
attribute [local go_sem] Oper.semAt_some

/-- those from a number on -/
def frm (s : Nat → Bool) (x : Nat) : Nat → Bool := fun y => s y && decide (x ≤ y)
theorem word_frm (s : Nat → Bool) (k : Nat) : Bm.word (frm s (64 * k)) k = Bm.word s k := by
  refine Bm.word_ext fun j _ => ?_
  unfold frm
  rw [decide_eq_true (by omega : 64 * k ≤ 64 * k + j), Bool.and_true]
/-- a round: the number that is told, and what is left -/
theorem frm_low {s : Nat → Bool} {x k : Nat} (hx : 64 * k ≤ x) (hk : k < 65) (h : Bm.word (frm s x) k ≠ 0) :
    ∃ j, j < 64 ∧ x ≤ 64 * k + j ∧ Bm.word (frm s x) k &&& (18446744073709551616 - Bm.word (frm s x) k) = 2 ^ j ∧ Bm.word (frm s x) k &&& (Bm.word (frm s x) k - 1) = Bm.word (frm s (64 * k + j + 1)) k ∧
      Bm.cnt s x < Bm.cnt s 4160 ∧ (Bm.lst s 4160).getD (Bm.cnt s x) 0 = ((64 * k + j : Nat) : Int) ∧ Bm.cnt s (64 * k + j + 1) = Bm.cnt s x + 1 := by
  obtain ⟨j, hj, h1, h2, h3, h4⟩ := Bm.word_low (frm s x) k h
  have hs : s (64 * k + j) = true := by
    unfold frm at h1
    exact (Bool.and_eq_true _ _ ▸ h1).1
  have hxy : x ≤ 64 * k + j := by
    unfold frm at h1
    exact of_decide_eq_true (Bool.and_eq_true _ _ ▸ h1).2
  have hc : Bm.cnt s (64 * k + j) = Bm.cnt s x := by
    have := Bm.cnt_none (s := s) (x := x) (64 * k + j - x) (fun y hy1 hy2 => by
      have h5 := h2 (y - 64 * k) (by omega)
      unfold frm at h5
      rw [show 64 * k + (y - 64 * k) = y by omega, decide_eq_true hy1, Bool.and_true] at h5
      exact h5)
    rwa [show x + (64 * k + j - x) = 64 * k + j by omega] at this
  refine ⟨j, hj, hxy, h3, ?_, ?_, ?_, ?_⟩
  · rw [h4]
    refine Bm.word_ext fun i _ => ?_
    unfold frm
    by_cases hi : 64 * k + j + 1 ≤ 64 * k + i
    · rw [decide_eq_true hi, decide_eq_true (by omega : x ≤ 64 * k + i), Bool.and_true]
    · rw [decide_eq_false hi, Bool.and_false, Bool.and_false]
  · rw [← hc]
    exact Bm.cnt_lt hs (by omega)
  · rw [← hc, List.getD_eq_getElem?_getD, Bm.lst_nth hs (by omega)]
    rfl
  · rw [Bm.cnt, hc, hs]
    rfl
theorem frm_none {s : Nat → Bool} {x k : Nat} (hx : 64 * k ≤ x) (hx2 : x ≤ 64 * (k + 1)) (h : Bm.word (frm s x) k = 0) : Bm.cnt s (64 * (k + 1)) = Bm.cnt s x := by
  have := Bm.cnt_none (s := s) (x := x) (64 * (k + 1) - x) (fun y hy1 hy2 => by
    have h5 := Bm.word_zero (frm s x) k h (y - 64 * k) (by omega)
    unfold frm at h5
    rw [show 64 * k + (y - 64 * k) = y by omega, decide_eq_true hy1, Bool.and_true] at h5
    exact h5)
  rwa [show x + (64 * (k + 1) - x) = 64 * (k + 1) by omega] at this
/-- the m-th of some numbers -/
def numAt (S : List Int) (m : Nat) : Int := S.getD m 0
theorem take_numAt {S : List Int} {m : Nat} (h : m < S.length) : S.take (m + 1) = S.take m ++ [numAt S m] := by
  unfold numAt
  rw [List.take_succ_eq_append_getElem h, List.getD_eq_getElem?_getD, List.getElem?_eq_getElem h, Option.getD_some]
theorem TabAt.lt {w : World} (h : TabAt w) : 0 < w.heap.size := World.block_lt_of_cell? _ _ (h 0 (by omega))
theorem TabAt.same {w w' : World} (h : TabAt w) (e : w'.heap[0]? = w.heap[0]?) : TabAt w' := fun j hj => (World.cell?_of_block e).trans (h j hj)
theorem TabAt.below {w w' : World} (h : TabAt w) (hb : Below w.heap.size w w') : TabAt w' := h.same (hb.block _ h.lt)
set_option maxHeartbeats 4000000 in
theorem all_its (s : Nat → Bool) (mb : Nat) (w : World) (hm : MapAt w mb s) (ht : TabAt w) :
    ItsF Tryd.prog 44 #[.pointer (some ⟨mb, 0, none⟩)] (fun m => #[.int .i64 (numAt (Bm.lst s 4160) m)]) (Bm.cnt s 4160) (fun i => i = 0) w := by
  intro n l J Jx W hW hJ hJx hY h0
  have hmW : MapAt W mb s := hm.below hW hm.lt
  have HT := Lib.hid (ht.below hW)
  have HRT := Lib.hid hmW.range
  have HCG := Lib.hid (fun k h W => map_index s k h W)
  have HLT : Hid ((Tryd.prog.info? 74).map (·.size) = some (mapC s).length) := Lib.hid (by rw [mapC_length]; exact words_size)
  have HFRM := Lib.hid (word_frm s)
  have HY := Lib.hid hY
  have HJ0 : Hid (J (Bm.cnt s (64 * 0)) W) := Lib.hid h0
  clear hm hmW ht hY h0 hJ hJx hW
  generalize mapC s = cs at *
  refine callsIn_of_wp Tryd.func44 rfl trivial ?_ rfl
  simp only [Tryd.ntmps44, List.size_toArray, List.length_cons, List.length_nil, Nat.reduceAdd, Nat.reduceSub, Array.replicate_succ, Array.replicate_zero, List.push_toArray, List.append_toArray, List.nil_append, List.cons_append]
  refine (wpIn_wide (n := n)).2 ?_
  go_wp2_with (refine wpList_load_mid (by rfl) 74 (.tmp 5) (by rfl) mb 0 (by rfl) cs _ HRT.out Tryd.underlying74 (by rfl) HLT.out ?_)
  refine (wpIn_wide (n := n)).1 ?_
  gi_loopw [7] (fun i wr => ∃ k : Nat, k ≤ 65 ∧ i = .int .i64 k ∧ Hid (J (Bm.cnt s (64 * k)) wr) ∧ Hid (TabAt wr) ∧ Hid (W.heap.size ≤ wr.heap.size)) (fun i _ => 65 - (intOf i).toNat)
  case atStart => exact ⟨0, by omega, rfl, HJ0, HT, Lib.hid (Nat.le_refl _)⟩
  case round =>
    obtain ⟨k, hk, rfl, HJ, HTR, HSZ⟩ := hrel
    clear HJ0 HT
    by_cases hlt : k < 65
    · have c1 := fun W => HCG.out k hlt W
      have HW0 : Hid (Bm.word s k = Bm.word (frm s (64 * k)) k) := Lib.hid (HFRM.out k).symm
      have hk65 : (k : Int) < 65 := by omega
      gi_wp2
      gi_loopw [4] (fun v wi => ∃ x : Nat, 64 * k ≤ x ∧ x ≤ 64 * (k + 1) ∧ v = .int .u64 ((Bm.word (frm s x) k : Nat) : Int) ∧ Hid (J (Bm.cnt s x) wi) ∧ Hid (TabAt wi) ∧ Hid (W.heap.size ≤ wi.heap.size)) (fun v _ => (intOf v).toNat)
      case atStart => exact ⟨64 * k, Nat.le_refl _, by omega, by rw [HW0.out], HJ, HTR, HSZ⟩
      case round =>
        clear HJ HTR HSZ
        obtain ⟨x, hx1, hx2, rfl, HJ, HTR, HSZ⟩ := hrel
        by_cases h0 : Bm.word (frm s x) k = 0
        · have hn := frm_none hx1 hx2 h0
          rw [h0]
          have e0 : (((0 : Nat) : Int) != 0) = false := by simp
          gi_wp2
          go_roundw
          case rel => exact ⟨k + 1, by omega, by go_num, by rw [hn]; exact HJ, HTR, HSZ⟩
          case measure => simp [intOf]; omega
        · obtain ⟨j, hj, hxy, hl, ha, hc, hv, hn⟩ := frm_low hx1 hlt h0
          have ct := zeros_any (Bm.word (frm s x) k) j (Bm.word_lt _ _) h0 hj hl wr HTR.out
          obtain ⟨fn, tmps, assign, body, hy, hR⟩ := HY.out (n - 1) (Bm.cnt s x) wr hc HSZ.out HJ.out
          have hlt64 := Bm.word_lt (frm s x) k
          obtain ⟨y, hyy⟩ : ∃ y : Int, y = ((64 * k + j : Nat) : Int) := ⟨_, rfl⟩
          unfold numAt at hy
          rw [hv, ← hyy] at hy
          have g1 : IntKind.i64.wrap ((k : Int) * 64) = (k : Int) * 64 := IntWalk.i64_in _ (by omega)
          have g2 : IntKind.i64.wrap ((k : Int) * 64 + (j : Int)) = y := by rw [IntWalk.i64_in _ (by omega), hyy]; omega
          have e0 : (((Bm.word (frm s x) k : Nat) : Int) != 0) = true := by simpa using h0
          have g3 : IntKind.u64.wrap (((Bm.word (frm s x) k : Nat) : Int) - 1) = ((Bm.word (frm s x) k - 1 : Nat) : Int) := by rw [IntWalk.u64_in _ (by omega)]; omega
          have g4 : bits BinOp.and IntKind.u64 ((Bm.word (frm s x) k : Nat) : Int) ((Bm.word (frm s x) k - 1 : Nat) : Int) = ((Bm.word (frm s (64 * k + j + 1)) k : Nat) : Int) := by
            rw [← ha]
            exact u64_and_nat _ _ hlt64 (by omega)
          have HN := Lib.hid hn
          have HLT : Hid (Bm.word (frm s (64 * k + j + 1)) k < Bm.word (frm s x) k) := Lib.hid (by
            rw [← ha]
            exact Nat.lt_of_le_of_lt Nat.and_le_right (by omega))
          have HV : Hid (j < 64 ∧ x ≤ 64 * k + j) := Lib.hid ⟨hj, hxy⟩
          clear hl ha hn hv hyy hlt64 h0 hxy hj hx2
          generalize Bm.word (frm s x) k = v0 at *
          generalize hv1 : Bm.word (frm s (64 * k + j + 1)) k = v1 at *
          have HV1 := Lib.hid hv1
          clear hv1
          obtain ⟨v2, hv2⟩ : ∃ v2 : Int, v2 = ((v0 - 1 : Nat) : Int) := ⟨_, rfl⟩
          rw [← hv2] at g3 g4
          clear hv2
          gi_wp2_with (first
            | (refine ⟨trivial, fun h => (by simp [Fence.wide] at h), ?_⟩; refine (callsIn_wide.2 ct).mono ?_; rintro e w1 ⟨rfl, rfl⟩))
          refine ⟨fun h => (by simp [Fence.wide] at h), ?_⟩
          refine hR.mono ?_
          rintro e W3 ⟨⟨rfl, hj3⟩ | ⟨rfl, hjx⟩, hs3⟩
          · gi_wp2
            go_roundw
            case rel => exact ⟨64 * k + j + 1, by have := HV.out; omega, by have := HV.out; omega, by rw [HV1.out], Lib.hid (by rw [HN.out]; exact hj3), Lib.hid (HTR.out.same (hs3.same _ HTR.out.lt rfl)), Lib.hid (Nat.le_trans HSZ.out hs3.size)⟩
            case measure => simpa [intOf] using HLT.out
          · gi_wp2
            refine bodyPost_ret (results_none rfl _ _ _) rfl ?_
            exact ⟨⟨_, rfl⟩, .inr ⟨Bm.cnt s x, hc, hjx⟩⟩
    · obtain rfl : k = 65 := by omega
      gi_wp2
      go_end0
      exact ⟨⟨_, rfl⟩, .inl HJ.out⟩
theorem all_any (s : Nat → Bool) (w : World) : Calls Tryd.prog 41 #[mapV s] w fun e w' => e = .returned (.func (.func 44) #[] #[.pointer (some ⟨w.heap.size, 0, none⟩)]) ∧ w' = w.alloc (.cells (mapC s).toArray 76) := by
  unfold mapV
  generalize mapC s = cs
  go_enter Tryd.func41, Tryd.ntmps41
  go_wp2
  go_ret
  exact ⟨rfl, rfl⟩
theorem all_enters (args : Array Value) (w : World) : (callFunc 44 args).run Tryd.prog w = .ok (.enter 44 args) w := enters_of Tryd.func44 (by kernel_rfl) rfl args w
end Go.Proofs.YtcmhodimkpkmbaaDoor
