/-
  Contracts of package spec: single, both, One.
-/
import Derived.Test.YtokknicfnnkldaaDoorRRSpecBelow
import Derived.Test.YtokknicfnnkldaaDoorRRNums
import Derived.Test.YtokknicfnnkldaaDoorRRTextLower
import Derived.Test.YtokknicfnnkldaaDoorRRThree
namespace Go.Proofs.YtokknicfnnkldaaDoorRR
open Go.ChangeShapes Go.WideShapes Go.ChangeAt Go.RowKit

/-- a spec as a value -/
def specV (x : Int × Int × Int) : Value := .agg #[.int .i64 x.1, .int .i64 x.2.1, .int .i64 x.2.2]
/-- a spec and an error, in new memory -/
def SpecTo (p : (Int × Int × Int) × Int) (w : World) (e : Ending) (w' : World) : Prop :=
  e = .returned (.tuple #[specV p.1, .int .i64 p.2]) ∧ Below w.heap.size w w'
theorem specTo_of {k f l n : Int} {p : (Int × Int × Int) × Int} {w w' : World} (h : ((k, f, l), n) = p) (hb : Below w.heap.size w w') :
    SpecTo p w (.returned (.tuple #[.agg #[.int .i64 k, .int .i64 f, .int .i64 l], .int .i64 n])) w' := by
  subst h
  exact ⟨rfl, hb⟩

theorem single_walk (k n e : Int) (z : Bool) (s : ByteArray) (w : World)
    (co : ∀ W, Calls Tryd.prog 31 #[.string s] W fun x w' => x = .returned (.tuple #[.int .i64 n, .int .i64 e]) ∧ W = w') (h1 : (e == 0) = z) (h2 : (e != 0) = !z) :
    Calls Tryd.prog 21 #[.int .i64 k, .string s] w (SpecTo (if z then ((k, n, 0), 0) else (Sp.zero, e)) w) := by
  cases z
  all_goals
    go_enter Tryd.func21, Tryd.ntmps21
    go_wp2_with (go_at_call 31; refine (co _).mono ?_; rintro x w' ⟨rfl, rfl⟩)
    first
      | exact bodyPost_ret (v := .tuple #[.agg #[.int .i64 k, .int .i64 n, .int .i64 0], .int .i64 0]) (by simp [results, Tryd.results21, go_sem]) rfl (specTo_of rfl ((Below.refl _ _).alloc (Nat.le_refl _) _))
      | exact bodyPost_ret (v := .tuple #[.agg #[.int .i64 0, .int .i64 0, .int .i64 0], .int .i64 e]) (by simp [results, Tryd.results21, go_sem]) rfl (specTo_of rfl ((Below.refl _ _).alloc (Nat.le_refl _) _))
theorem single_any (k : Int) (s : ByteArray) (w : World) (hs : s.size ≤ maxLen) :
    Calls Tryd.prog 21 #[.int .i64 k, .string s] w (SpecTo (Sp.lone k s.data.toList) w) := by
  have := single_walk k _ _ _ s w (fun W => parse_any s W hs) rfl (ne_of rfl)
  have e : Sp.lone k s.data.toList = (if (Nm.parse s.data.toList).2 == 0 then ((k, (Nm.parse s.data.toList).1, 0), 0) else (Sp.zero, (Nm.parse s.data.toList).2)) := by
    unfold Sp.lone
    simp only [beq_iff_eq]
  rw [e]
  exact this

theorem both_walk (a b : ByteArray) (n e m f : Int) (p q r z : Bool) (w : World)
    (ca : ∀ W, Calls Tryd.prog 31 #[.string a] W fun x w' => x = .returned (.tuple #[.int .i64 n, .int .i64 e]) ∧ W = w')
    (cb : ∀ W, Calls Tryd.prog 31 #[.string b] W fun x w' => x = .returned (.tuple #[.int .i64 m, .int .i64 f]) ∧ W = w')
    (cl : ∀ W, Calls Tryd.prog 32 #[.string b, .string a] W fun x w' => x = .returned (.bool r) ∧ W = w')
    (h1 : (e == 3) = p) (h2 : (f == 3) = q) (h3 : (f == 9) = z) :
    Calls Tryd.prog 22 #[.string a, .string b] w (SpecTo (if p || (q || r) then (Sp.zero, 3) else if z then (Sp.zero, 9) else ((2, n, m), 0)) w) := by
  cases p <;> cases q <;> cases r <;> cases z
  all_goals
    go_enter Tryd.func22, Tryd.ntmps22
    go_wp2_with (first
      | (go_at_call 31; (first | (with_reducible refine (ca _).mono ?_) | (with_reducible refine (cb _).mono ?_)); rintro x w' ⟨rfl, rfl⟩)
      | (go_at_call 32; refine (cl _).mono ?_; rintro x w' ⟨rfl, rfl⟩))
    first
      | exact bodyPost_ret (v := .tuple #[.agg #[.int .i64 0, .int .i64 0, .int .i64 0], .int .i64 3]) (by simp [results, Tryd.results22, go_sem]) rfl (specTo_of rfl ((Below.refl _ _).alloc (Nat.le_refl _) _))
      | exact bodyPost_ret (v := .tuple #[.agg #[.int .i64 0, .int .i64 0, .int .i64 0], .int .i64 9]) (by simp [results, Tryd.results22, go_sem]) rfl (specTo_of rfl ((Below.refl _ _).alloc (Nat.le_refl _) _))
      | exact bodyPost_ret (v := .tuple #[.agg #[.int .i64 2, .int .i64 n, .int .i64 m], .int .i64 0]) (by simp [results, Tryd.results22, go_sem]) rfl (specTo_of rfl ((Below.refl _ _).alloc (Nat.le_refl _) _))

theorem both_any (a b : ByteArray) (w : World) (ha : a.size ≤ maxLen) (hb : b.size ≤ maxLen) :
    Calls Tryd.prog 22 #[.string a, .string b] w (SpecTo (Sp.pair a.data.toList b.data.toList) w) := by
  have := both_walk a b _ _ _ _ _ _ _ _ w (fun W => parse_any a W ha) (fun W => parse_any b W hb) (fun W => below_any b a W) rfl rfl rfl
  have e : Sp.pair a.data.toList b.data.toList = (if ((Nm.parse a.data.toList).2 == 3) || (((Nm.parse b.data.toList).2 == 3) || Sp.less b.data.toList a.data.toList) then (Sp.zero, 3) else if (Nm.parse b.data.toList).2 == 9 then (Sp.zero, 9) else ((2, (Nm.parse a.data.toList).1, (Nm.parse b.data.toList).1), 0)) := by
    unfold Sp.pair
    simp only [Bool.or_eq_true, beq_iff_eq]
  rw [e]
  exact this

theorem one_walk (s A B : ByteArray) (is p q : Bool) (x y z : (Int × Int × Int) × Int) (w : World)
    (cc : ∀ W, Calls Tryd.prog 17 #[.string s, .int .u8 45] W fun e w' => e = .returned (.tuple #[.string A, .string B, .bool is]) ∧ Below W.heap.size W w')
    (c3 : ∀ W, Calls Tryd.prog 21 #[.int .i64 3, .string B] W fun e w' => e = .returned (.tuple #[.agg #[.int .i64 x.1.1, .int .i64 x.1.2.1, .int .i64 x.1.2.2], .int .i64 x.2]) ∧ Below W.heap.size W w')
    (c1 : ∀ W, Calls Tryd.prog 21 #[.int .i64 1, .string A] W fun e w' => e = .returned (.tuple #[.agg #[.int .i64 y.1.1, .int .i64 y.1.2.1, .int .i64 y.1.2.2], .int .i64 y.2]) ∧ Below W.heap.size W w')
    (c2 : ∀ W, Calls Tryd.prog 22 #[.string A, .string B] W fun e w' => e = .returned (.tuple #[.agg #[.int .i64 z.1.1, .int .i64 z.1.2.1, .int .i64 z.1.2.2], .int .i64 z.2]) ∧ Below W.heap.size W w')
    (h1 : A.toList.isEmpty = p) (h2 : B.toList.isEmpty = q) :
    Calls Tryd.prog 10 #[.string s] w (SpecTo (if is then (if p then x else if q then y else z) else (Sp.zero, 3)) w) := by
  have HB := Below.refl w.heap.size w
  cases is <;> cases p <;> cases q
  all_goals
    go_enter Tryd.func10, Tryd.ntmps10
    go_wp2_with (first
      | (go_at_call 17; refine (cc _).mono ?_; rintro e w1 ⟨rfl, hb⟩; have T1 := (Three.new w (.int .i64 0) (.int .i64 0) (.int .i64 0) _).below hb; have TH := Lib.hid T1; obtain ⟨n1, x1, y1, z1, u1, u2, u3⟩ := T1; replace HB := below_box3 HB hb; clear hb)
      | (go_at_call 21; (first | (with_reducible refine (c3 _).mono ?_) | (with_reducible refine (c1 _).mono ?_)); rintro e w2 ⟨rfl, hb⟩; obtain ⟨n2, x2, y2, z2, v1, v2, v3⟩ := TH.out.below hb; replace HB := below_next3 HB hb; clear hb)
      | (go_at_call 22; refine (c2 _).mono ?_; rintro e w2 ⟨rfl, hb⟩; obtain ⟨n2, x2, y2, z2, v1, v2, v3⟩ := TH.out.below hb; replace HB := below_next3 HB hb; clear hb))
    first
      | exact bodyPost_ret (v := .tuple #[.agg #[.int .i64 0, .int .i64 0, .int .i64 0], .int .i64 3]) (by simp [results, Tryd.results10, go_sem, x1, y1, z1]) rfl (specTo_of rfl (below_set3 HB (Nat.le_refl _) _ _ _))
      | exact bodyPost_ret (v := .tuple #[.agg #[.int .i64 x.1.1, .int .i64 x.1.2.1, .int .i64 x.1.2.2], .int .i64 x.2]) (by simp [results, Tryd.results10, go_sem, x2, y2, z2]) rfl (specTo_of rfl (below_set3 HB (Nat.le_refl _) _ _ _))
      | exact bodyPost_ret (v := .tuple #[.agg #[.int .i64 y.1.1, .int .i64 y.1.2.1, .int .i64 y.1.2.2], .int .i64 y.2]) (by simp [results, Tryd.results10, go_sem, x2, y2, z2]) rfl (specTo_of rfl (below_set3 HB (Nat.le_refl _) _ _ _))
      | exact bodyPost_ret (v := .tuple #[.agg #[.int .i64 z.1.1, .int .i64 z.1.2.1, .int .i64 z.1.2.2], .int .i64 z.2]) (by simp [results, Tryd.results10, go_sem, x2, y2, z2]) rfl (specTo_of rfl (below_set3 HB (Nat.le_refl _) _ _ _))
theorem empty_of (l : List UInt8) : (Str l).toList.isEmpty = decide (l = []) := by
  rw [str_empty]
  cases l <;> simp
theorem cut_len (l : List UInt8) (c : UInt8) : (Tx.cut l c).1.length + (Tx.cut l c).2.1.length ≤ l.length := by
  rcases Tx.cut_cases l c with ⟨a, b, e, hn⟩ | hn
  · rw [e, Tx.cut_found hn, List.length_append, List.length_cons]
    show a.length + b.length ≤ _
    omega
  · rw [Tx.cut_none hn]; simp
theorem one_split (s : List UInt8) : Sp.one s = if (Tx.cut s 45).2.2 then (if decide ((Tx.cut s 45).1 = []) then Sp.lone 3 (Tx.cut s 45).2.1 else if decide ((Tx.cut s 45).2.1 = []) then Sp.lone 1 (Tx.cut s 45).1 else Sp.pair (Tx.cut s 45).1 (Tx.cut s 45).2.1) else (Sp.zero, 3) := by
  unfold Sp.one
  cases (Tx.cut s 45).2.2 <;> simp
theorem one_any (s : ByteArray) (w : World) (hs : s.size ≤ maxLen) :
    Calls Tryd.prog 10 #[.string s] w (SpecTo (Sp.one s.data.toList) w) := by
  have hl := cut_len s.data.toList 45
  rw [size_list] at hl
  have hA : (Str (Tx.cut s.data.toList 45).1).size ≤ maxLen := by rw [str_size]; omega
  have hB : (Str (Tx.cut s.data.toList 45).2.1).size ≤ maxLen := by rw [str_size]; omega
  have := one_walk s _ _ _ _ _ _ _ _ w (fun W => cut_any s 45 W (by unfold maxLen at hs; omega)) (fun W => single_any 3 _ W hB) (fun W => single_any 1 _ W hA) (fun W => both_any _ _ W hA hB) (empty_of _) (empty_of _)
  rw [str_list, str_list] at this
  rw [one_split]
  exact this
end Go.Proofs.YtokknicfnnkldaaDoorRR
