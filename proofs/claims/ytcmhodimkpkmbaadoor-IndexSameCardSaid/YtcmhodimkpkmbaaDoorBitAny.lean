/-
  With, Without, Has, Of for whatever number and list (over a program of 65 words).
-/
import Derived.Test.YtcmhodimkpkmbaaDoorBitWith
import Derived.Test.YtcmhodimkpkmbaaDoorIntVals
namespace Go.Proofs.YtcmhodimkpkmbaaDoor
open Go.ChangeShapes Go.WideShapes Go.ChangeAt Go.RowKit
set_option maxRecDepth 100000

/-- with a number, if it may be; without it -/
def insI (s : Nat → Bool) (i : Int) : Nat → Bool := if mayB i then Bm.ins s i.toNat else s
def delI (s : Nat → Bool) (i : Int) : Nat → Bool := if mayB i then Bm.del s i.toNat else s
/-- whether a number is there -/
def hasI (s : Nat → Bool) (i : Int) : Bool := mayB i && s i.toNat
set_option maxHeartbeats 1000000 in
theorem with_no (s : Nat → Bool) (i : Int) (w : World) (h : mayB i = false) : Calls Tryd.prog 42 #[mapV s, .int .i64 i] w fun e w' => e = .returned (mapV s) ∧ Below w.heap.size w w' := by
  unfold mapV
  have cm := fun W => may_any i W
  rw [h] at cm
  have hz := map_zero
  have HZM := Lib.hid (MapAt.new (w.alloc (.cells (mapC s).toArray 76)) (fun _ => false))
  have e1 : (w.alloc (.cells (mapC s).toArray 76)).heap.size = w.heap.size + 1 := by simp
  rw [e1] at HZM
  have HR : Hid (((w.alloc (.cells (mapC s).toArray 76)).alloc (.cells (mapC fun _ => false).toArray 76)).rangeAt w.heap.size 0 (mapC s)) := Lib.hid (MapAt.range ((MapAt.new w s).below ((Below.refl _ _).alloc (Nat.le_refl _) (.cells (mapC fun _ => false).toArray 76)) (MapAt.new w s).lt))
  have HBF : Hid (Below w.heap.size w (((w.alloc (.cells (mapC s).toArray 76)).alloc (.cells (mapC fun _ => false).toArray 76)).setCells (w.heap.size + 1) 0 (mapC s))) := Lib.hid (by
    have q1 : Below w.heap.size w (w.alloc (.cells (mapC s).toArray 76)) := (Below.refl _ _).alloc (Nat.le_refl _) _
    exact below_setCells _ _ _ _ (Nat.le_succ _) (q1.alloc q1.size _))
  have HS : Hid ((((w.alloc (.cells (mapC s).toArray 76)).alloc (.cells (mapC fun _ => false).toArray 76)).setCells (w.heap.size + 1) 0 (mapC s)).rangeAt (w.heap.size + 1) 0 (mapC s)) := Lib.hid (MapAt.stored HZM.out _)
  have HT : Hid (((w.alloc (.cells (mapC s).toArray 76)).alloc (.cells (mapC fun _ => false).toArray 76)).there (w.heap.size + 1) 0 (mapC s).toArray.size) := Lib.hid (by
    have := HZM.out.there
    rw [show (mapC s).toArray.size = 65 by simp [mapC_length]]
    exact this)
  have HI : Hid ((Tryd.prog.info? 76).map (·.size) = some (mapC s).length) := Lib.hid (by rw [map_size, mapC_length])
  have HIA : Hid ((Tryd.prog.info? 76).map (·.size) = some (mapC s).toArray.size) := Lib.hid (by rw [HI.out]; simp)
  have HO : Hid ((mapC s).toArray.all (·.oneCell') = true) := Lib.hid (all_oneCell_toArray (u64s_one _))
  have HRES := Lib.hid (fun (tm : Array Value) (h4 : tm.getD 4 undef = .pointer (some ⟨w.heap.size + 1, 0, none⟩)) => res_with (t := s) h4 HS.out)
  unfold mapV at HRES
  clear HZM HS h e1
  generalize mapC s = c2 at *
  generalize mapC (fun _ => false) = z0 at *
  go_enter Tryd.func42, Tryd.ntmps42
  go_wp2_with (first
    | (go_at_call 46; (with_reducible refine (cm _).mono ?_); rintro e w1 ⟨rfl, rfl⟩; clear cm)
    | (refine wpList_load_mid (by rfl) 76 (.tmp 2) (by rfl) w.heap.size 0 (by rfl) c2 _ HR.out Tryd.underlying76 (by rfl) HI.out ?_)
    | (refine wpList_store_mid (by rfl) 76 (.tmp 4) (.tmp 17) (by rfl) (w.heap.size + 1) 0 c2.toArray (by rfl) (by rfl) HT.out HIA.out HO.out ?_))
  exact bodyPost_ret (HRES.out _ rfl) rfl ⟨rfl, HBF.out⟩
/-- whatever the number -/
theorem with_any (s : Nat → Bool) (i : Int) (w : World) : Calls Tryd.prog 42 #[mapV s, .int .i64 i] w fun e w' => e = .returned (mapV (insI s i)) ∧ Below w.heap.size w w' := by
  unfold insI
  cases h : mayB i
  · exact with_no s i w h
  · have h2 : 0 ≤ i ∧ i ≤ 4096 := of_decide_eq_true h
    have h3 := with_yes s (i.toNat / 64) (i.toNat % 64) w (by omega) (by omega) (by omega)
    rw [show 64 * (i.toNat / 64) + i.toNat % 64 = i.toNat by omega, Int.toNat_of_nonneg h2.1] at h3
    exact h3
/-- those of a list -/
def setOf (l : List Int) : Nat → Bool := l.foldl insI fun _ => false
theorem setOf_snoc (l : List Int) (i : Int) : setOf (l ++ [i]) = insI (setOf l) i := by simp [setOf]
theorem setOf_eq (l : List Int) (x : Nat) : setOf l x = (decide (x ≤ 4096) && decide ((x : Int) ∈ l)) := by
  have key : ∀ (l : List Int) (s : Nat → Bool), (l.foldl insI s) x = (s x || (decide (x ≤ 4096) && decide ((x : Int) ∈ l))) := by
    intro l
    induction l with
    | nil => intro s; simp
    | cons a l ih =>
      intro s
      rw [List.foldl_cons, ih]
      unfold insI
      cases h : mayB a
      · simp only [Bool.false_eq_true, if_false]
        congr 1
        rw [Bool.eq_iff_iff]
        simp only [Bool.and_eq_true, decide_eq_true_eq, List.mem_cons]
        have h2 : ¬ (0 ≤ a ∧ a ≤ 4096) := of_decide_eq_false h
        constructor
        · rintro ⟨p, q⟩; exact ⟨p, .inr q⟩
        · rintro ⟨p, q | q⟩
          · omega
          · exact ⟨p, q⟩
      · have h2 : 0 ≤ a ∧ a ≤ 4096 := of_decide_eq_true h
        simp only [if_true]
        unfold Bm.ins
        rw [Bool.or_assoc]
        congr 1
        rw [Bool.eq_iff_iff]
        simp only [Bool.or_eq_true, Bool.and_eq_true, decide_eq_true_eq, List.mem_cons]
        constructor
        · rintro (p | ⟨p, q⟩)
          · exact ⟨by omega, .inl (by omega)⟩
          · exact ⟨p, .inr q⟩
        · rintro ⟨p, q | q⟩
          · exact .inl (by omega)
          · exact .inr ⟨p, q⟩
  have := key l fun _ => false
  simpa [setOf] using this
end Go.Proofs.YtcmhodimkpkmbaaDoor
