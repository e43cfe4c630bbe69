/-
  The statement on two maps: the contracts of the landed program, and the walk.
-/
import Derived.Test.YtgfafcolfcdkdaaDoorBitAwake
import Derived.Test.YtgfafcolfcdkdaaDoorBitTwoW
namespace Go.Proofs.YtgfafcolfcdkdaaDoor
open Go.ChangeShapes Go.WideShapes Go.ChangeAt Go.RowKit
set_option maxRecDepth 100000

theorem sameB_iff (s t : Nat → Bool) : sameB s t = true ↔ ∀ x, x < 4160 → s x = t x := by
  unfold sameB
  rw [beq_iff_eq]
  exact ⟨fun h x hx => Bm.of_words h x (by omega), fun h => Bm.words_ext (fun x hx => h x (by omega))⟩
theorem sameB_true {s t : Nat → Bool} (h : ∀ x, s x = t x) : sameB s t = true := (sameB_iff s t).2 fun x _ => h x
theorem within_eq (a b : List Int) : sameB (fun x => setOf a x && setOf b x) (setOf a) = withinB a b := by
  rw [Bool.eq_iff_iff, sameB_iff]
  unfold withinB
  rw [List.all_eq_true]
  constructor
  · intro h k hk
    by_cases h1 : k < 0
    · simp [h1]
    · by_cases h2 : 4096 < k
      · simp [h2]
      · have h3 := h k.toNat (by omega)
        rw [setOf_eq, setOf_eq, decide_eq_true (by omega : k.toNat ≤ 4096), show ((k.toNat : Nat) : Int) = k by omega, decide_eq_true hk] at h3
        simp only [Bool.true_and] at h3
        rw [h3, Bool.or_true]
  · intro h x _
    rw [setOf_eq, setOf_eq]
    by_cases h1 : x ≤ 4096
    · by_cases h2 : (x : Int) ∈ a
      · have h3 := h _ h2
        rw [decide_eq_false (by omega : ¬ (x : Int) < 0), decide_eq_false (by omega : ¬ (4096 : Int) < (x : Int)), Bool.false_or, Bool.false_or] at h3
        rw [h3, Bool.and_true, decide_eq_true h1, decide_eq_true h2]
        rfl
      · simp [h2]
    · simp [h1]
theorem has_or (s t : Nat → Bool) (i : Int) : hasI (fun x => s x || t x) i = (hasI s i || hasI t i) := by
  unfold hasI
  cases mayB i <;> rfl
theorem has_and (s t : Nat → Bool) (i : Int) : hasI (fun x => s x && t x) i = (hasI s i && hasI t i) := by
  unfold hasI
  cases mayB i <;> rfl
theorem bitmapTwo_walk (A : Option Addr) (n c : Nat) (a : List Int) (A2 : Option Addr) (n2 c2 : Nat) (b : List Int) (i : Int) (w : World) (hA : Vs w w.heap.size A n (nums .i64 a)) (_ : n ≤ c) (_ : ∀ z ∈ a, (Lit.int .i64 z).wf = true) (hA2 : Vs w w.heap.size A2 n2 (nums .i64 b)) (_ : n2 ≤ c2) (_ : ∀ z ∈ b, (Lit.int .i64 z).wf = true) (_ : -9223372036854775808 ≤ i) (_ : i ≤ 9223372036854775807) (ht : Tab64 w) :
    Calls Tryd.prog 4 #[.slice A n c, .slice A2 n2 c2, .int .i64 i] w fun e w' => e = .returned (.bool true) ∧ Below w.heap.size w w' := by
  have ka := fun W h => awake_any W (ht.on h)
  by_cases hn : 60 < n
  · exact two_long (.inl hn) ka
  by_cases hn2 : 60 < n2
  · exact two_long (.inr hn2) ka
  have hor : mapC (fun x => setOf b x || setOf a x) = mapC (fun x => setOf a x || setOf b x) := by
    congr 1
    funext x
    exact Bool.or_comm _ _
  have hand : mapC (fun x => setOf b x && setOf a x) = mapC (fun x => setOf a x && setOf b x) := by
    congr 1
    funext x
    exact Bool.and_comm _ _
  have kor2 := fun W => or_any (setOf b) (setOf a) W
  have kand2 := fun W => and_any (setOf b) (setOf a) W
  unfold mapV at kor2 kand2
  rw [hor] at kor2
  rw [hand] at kand2
  have kw1 := fun W => within_any (setOf a) (setOf b) W
  rw [within_eq] at kw1
  have kw2 := fun W => within_any (fun x => setOf a x && setOf b x) (setOf a) W
  rw [sameB_true (fun x => by cases setOf a x <;> cases setOf b x <;> rfl)] at kw2
  have kw3 := fun W => within_any (setOf a) (fun x => setOf a x || setOf b x) W
  rw [sameB_true (fun x => by cases setOf a x <;> cases setOf b x <;> rfl)] at kw3
  have khu := fun W => has_any (fun x => setOf a x || setOf b x) i W
  rw [has_or] at khu
  have kha := fun W => has_any (fun x => setOf a x && setOf b x) i W
  rw [has_and] at kha
  have heU := fun W => map_eqlC (fun x => setOf a x || setOf b x) (fun x => setOf a x || setOf b x) W
  rw [sameB_true (fun _ => rfl)] at heU
  have heA := fun W => map_eqlC (fun x => setOf a x && setOf b x) (fun x => setOf a x && setOf b x) W
  rw [sameB_true (fun _ => rfl)] at heA
  exact two_core (cs := mapC (setOf a)) (ct := mapC (setOf b)) (cu := mapC fun x => setOf a x || setOf b x) (ca := mapC fun x => setOf a x && setOf b x) (z0 := mapC fun _ => false) hn hn2 hA hA2 ka
    map_zero (map_infoC _) (by rw [mapC_length, mapC_length]) (by rw [mapC_length, mapC_length]) (u64s_one _) (u64s_one _)
    (fun W h => of_any A n c w.heap.size a W (hA.below h) h.size (by omega)) (fun W h => of_any A2 n2 c2 w.heap.size b W (hA2.below h) h.size (by omega)) rfl
    (fun W => or_any (setOf a) (setOf b) W) kor2 (fun W => and_any (setOf a) (setOf b) W) kand2 (fun W => has_any (setOf a) i W) (fun W => has_any (setOf b) i W) khu kha kw1 kw2 kw3 heU heA
end Go.Proofs.YtgfafcolfcdkdaaDoor
