/-
  Contract of crange.Parse, of every text.
-/
import Derived.Test.YtlilkcbhlinolaaDoorCrangeParse
namespace Go.Proofs.YtlilkcbhlinolaaDoor
open Go.ChangeShapes Go.WideShapes Go.ChangeAt Go.RowKit

/-- what is said of bytes: known, from, to, how many -/
abbrev Cr.Con : Type := Bool × Int × Int × Int
def Cr.zero : Cr.Con := (false, 0, 0, 0)
def Cr.bytes : List UInt8 := [98, 121, 116, 101, 115]
/-- is one of the numbers wrong in this way -/
def Cr.bad (x : Int) (at_ tot : List UInt8) : Bool :=
  (!(at_ == [42]) && ((Nm.parse (Tx.cut at_ 45).1).2 == x || (Nm.parse (Tx.cut at_ 45).2.1).2 == x)) || (!(tot == [42]) && (Nm.parse tot).2 == x)
def Cr.con (at_ tot : List UInt8) : Cr.Con :=
  (!(at_ == [42]), if at_ == [42] then 0 else (Nm.parse (Tx.cut at_ 45).1).1, if at_ == [42] then 0 else (Nm.parse (Tx.cut at_ 45).2.1).1 + 1, if tot == [42] then -1 else (Nm.parse tot).1)
def Cr.ok (c : Cr.Con) : Bool := Cr.rightB c.1 c.2.1 c.2.2.1 c.2.2.2
def Cr.read (at_ tot : List UInt8) : Cr.Con × Int :=
  if Cr.bad 3 at_ tot then (Cr.zero, 3) else if Cr.bad 9 at_ tot then (Cr.zero, 9) else if Cr.ok (Cr.con at_ tot) then (Cr.con at_ tot, 0) else (Cr.zero, 3)
def Cr.parse (l : List UInt8) : Cr.Con × Int :=
  if (Tx.cut l 32).1.map Tx.low = Cr.bytes then Cr.read (Tx.cut (Tx.cut l 32).2.1 47).1 (Tx.cut (Tx.cut l 32).2.1 47).2.1 else (Cr.zero, 3)

theorem Nm.parse_range (l : List UInt8) : 0 ≤ (Nm.parse l).1 ∧ (Nm.parse l).1 ≤ 4611686018427387903 := by
  by_cases h : l = []
  · subst h; simp [Nm.parse]
  · rw [Nm.parse_char h]
    by_cases ha : l.all Nm.digB = true
    · rw [if_pos ha]
      by_cases hv : Nm.val 0 l ≤ Nm.maxNum
      · rw [if_pos hv]
        exact ⟨Nm.val_nonneg ha (by omega), hv⟩
      · rw [if_neg hv]; decide
    · rw [if_neg ha]; decide

theorem cut_size (l : List UInt8) (c : UInt8) : (Tx.cut l c).1.length ≤ l.length ∧ (Tx.cut l c).2.1.length ≤ l.length := by
  rcases Tx.cut_cases l c with ⟨a, b, e, hn⟩ | hn
  · rw [e, Tx.cut_found hn, List.length_append, List.length_cons]
    exact ⟨by show a.length ≤ _; omega, by show b.length ≤ _; omega⟩
  · rw [Tx.cut_none hn]; simp

theorem read_any (s M R A T : ByteArray) (i1 i2 i3 : Bool) (X Y : ByteArray) (w : World) (hX : X.size ≤ maxLen) (hY : Y.size ≤ maxLen) (hT : T.size ≤ maxLen)
    (c1 : ∀ W, Calls Tryd.prog 57 #[.string s, .int .u8 32] W fun e w' => e = .returned (.tuple #[.string M, .string R, .bool i1]) ∧ Below W.heap.size W w')
    (c2 : ∀ W, Calls Tryd.prog 57 #[.string R, .int .u8 47] W fun e w' => e = .returned (.tuple #[.string A, .string T, .bool i2]) ∧ Below W.heap.size W w')
    (c3 : ∀ W, Calls Tryd.prog 57 #[.string A, .int .u8 45] W fun e w' => e = .returned (.tuple #[.string X, .string Y, .bool i3]) ∧ Below W.heap.size W w')
    (cf : ∀ W, Calls Tryd.prog 58 #[.string M, .string ⟨#[98, 121, 116, 101, 115]⟩] W fun e w' => e = .returned (.bool true) ∧ Below W.heap.size W w')
    (hx : X.data.toList = (Tx.cut A.data.toList 45).1) (hy : Y.data.toList = (Tx.cut A.data.toList 45).2.1) :
    Calls Tryd.prog 47 #[.string s] w (ConTo (Cr.read A.data.toList T.data.toList).1.1 (Cr.read A.data.toList T.data.toList).1.2.1 (Cr.read A.data.toList T.data.toList).1.2.2.1 (Cr.read A.data.toList T.data.toList).1.2.2.2 (Cr.read A.data.toList T.data.toList).2 w) := by
  have ck := fun W g (hR : Rd W g false false) => content_walk A T X Y i3 _ _ _ _ _ _ _ _ g _ _ _ W hR (Nm.parse_range Y.data.toList) rfl rfl rfl rfl c3
    (fun W p q h => number_any g X _ _ p q W h (fun W => parse_any X W hX)) (fun W p q h => number_any g Y _ _ p q W h (fun W => parse_any Y W hY)) (fun W p q h => number_any g T _ _ p q W h (fun W => parse_any T W hT))
  rw [hx, hy, Lib.toList_data, Lib.toList_data] at ck
  have cr := fun W => crRight_any (Cr.con A.data.toList T.data.toList).1 (Cr.con A.data.toList T.data.toList).2.1 (Cr.con A.data.toList T.data.toList).2.2.1 (Cr.con A.data.toList T.data.toList).2.2.2 W
  have ck2 : ∀ W g, Rd W g false false → Calls Tryd.prog 59 #[.string A, .string T, .func (.func 60) #[.pointer (some ⟨g, 0, none⟩)] #[]] W fun e w' =>
      e = .returned (.agg #[.bool (Cr.con A.data.toList T.data.toList).1, .int .i64 (Cr.con A.data.toList T.data.toList).2.1, .int .i64 (Cr.con A.data.toList T.data.toList).2.2.1, .int .i64 (Cr.con A.data.toList T.data.toList).2.2.2]) ∧
        Rd w' g (Cr.bad 3 A.data.toList T.data.toList) (Cr.bad 9 A.data.toList T.data.toList) ∧ Below g W w' := ck
  clear ck
  change ∀ W, Calls Tryd.prog 52 _ W fun e w' => e = .returned (.bool (Cr.ok (Cr.con A.data.toList T.data.toList))) ∧ _ at cr
  unfold Cr.read
  cases hN : Cr.bad 3 A.data.toList T.data.toList with
  | true =>
    rw [hN] at ck2
    simp only [if_true]
    exact crParse_none s M R A T i1 i2 _ _ _ _ w c1 c2 _ cf ck2
  | false =>
    rw [hN] at ck2
    cases hO : Cr.bad 9 A.data.toList T.data.toList with
    | true =>
      rw [hO] at ck2
      simp only [Bool.false_eq_true, if_true, if_false]
      exact crParse_over s M R A T i1 i2 _ _ _ _ w c1 c2 cf ck2
    | false =>
      rw [hO] at ck2
      cases hr : Cr.ok (Cr.con A.data.toList T.data.toList) with
      | true =>
        rw [hr] at cr
        simp only [Bool.false_eq_true, if_true, if_false]
        exact crParse_right s M R A T i1 i2 _ _ _ _ w c1 c2 cf ck2 cr
      | false =>
        rw [hr] at cr
        simp only [Bool.false_eq_true, if_false]
        exact crParse_wrong s M R A T i1 i2 _ _ _ _ w c1 c2 cf ck2 cr

def ConIs (c : Cr.Con × Int) (w : World) : Ending → World → Prop := ConTo c.1.1 c.1.2.1 c.1.2.2.1 c.1.2.2.2 c.2 w
theorem crParse_any (s : ByteArray) (w : World) (hs : s.size ≤ maxLen) :
    Calls Tryd.prog 47 #[.string s] w (ConIs (Cr.parse s.data.toList) w) := by
  have hm : maxLen ≤ 9223372036854775807 := by unfold maxLen; omega
  have h1 := cut_size s.data.toList 32
  have h2 := cut_size (Tx.cut s.data.toList 32).2.1 47
  have h3 := cut_size (Tx.cut (Tx.cut s.data.toList 32).2.1 47).1 45
  rw [size_list] at h1
  have c1 := fun W => cut_any s 32 W (by omega)
  have c2 := fun W => cut_any (Str (Tx.cut s.data.toList 32).2.1) 47 W (by rw [str_size]; omega)
  have c3 := fun W => cut_any (Str (Tx.cut (Tx.cut s.data.toList 32).2.1 47).1) 45 W (by rw [str_size]; omega)
  have cf := fun W => fold_any (Str (Tx.cut s.data.toList 32).1) ⟨#[98, 121, 116, 101, 115]⟩ W (by rw [str_size]; omega) (by decide)
  rw [str_list, show (ByteArray.mk #[98, 121, 116, 101, 115]).data.toList.map Tx.low = Cr.bytes by decide] at cf
  unfold ConIs Cr.parse
  by_cases hu : (Tx.cut s.data.toList 32).1.map Tx.low = Cr.bytes
  · rw [decide_eq_true hu] at cf
    rw [if_pos hu]
    have := read_any s _ _ _ _ _ _ _ _ _ w (by rw [str_size]; rw [str_list]; omega) (by rw [str_size]; rw [str_list]; omega) (by rw [str_size]; rw [str_list]; omega) c1 c2 c3 cf (str_list _) (str_list _)
    simp only [str_list] at this
    exact this
  · rw [decide_eq_false hu] at cf
    rw [if_neg hu]
    exact crParse_unit s _ _ _ w c1 cf
end Go.Proofs.YtlilkcbhlinolaaDoor
