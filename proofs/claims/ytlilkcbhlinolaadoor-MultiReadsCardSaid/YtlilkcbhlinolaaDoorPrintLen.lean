/-
  How long a Content-Range is, at most.
-/
import Derived.Test.YtlilkcbhlinolaaDoorCrangePrint
namespace Go.Proofs.YtlilkcbhlinolaaDoor

theorem Cr.print_len (k : Bool) (a b n : Int) : (Cr.printL k a b n).length ≤ 80 := by
  unfold Cr.printL
  by_cases hr : Cr.rightB k a b n = true
  · rw [if_pos hr]
    have hn : (if n != -1 then Lib.itoa n else [42]).length ≤ 21 := by
      have : -1 ≤ n ∧ n ≤ 4611686018427387903 := by
        cases k
        · have := Cr.right_not hr; omega
        · have := Cr.right_known hr; omega
      by_cases h : (n != -1) = true
      · rw [if_pos h]; exact Lib.itoa_length_le n (by omega) (by omega)
      · rw [if_neg h]; decide
    cases k with
    | false => simp only [List.length_append, List.length_cons, List.length_nil, Bool.false_eq_true, if_false]; omega
    | true =>
      have h := Cr.right_known hr
      have ha := Lib.itoa_length_le a (by omega) (by omega)
      have hb := Lib.itoa_length_le (b - 1) (by omega) (by omega)
      simp only [List.length_append, List.length_cons, List.length_nil, if_true]
      omega
  · rw [if_neg hr]; simp
end Go.Proofs.YtlilkcbhlinolaaDoor
