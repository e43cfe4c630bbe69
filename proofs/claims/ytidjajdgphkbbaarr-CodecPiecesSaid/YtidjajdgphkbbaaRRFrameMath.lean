/-
  Plain mathematics of frames: numbers as bytes, the highest first; a record's bytes; what any bytes begin with; there and back; one byte that is another one.
-/
import Derived.Test.YtidjajdgphkbbaaRRCrcMath
namespace Go.Proofs.YtidjajdgphkbbaaRR.Fm

/-- so many bytes of a number, the highest first -/
def be (n : Nat) : Nat → List UInt8
  | 0 => []
  | k + 1 => UInt8.ofNat (n / 2 ^ (8 * k)) :: be n k
def numFrom (a : Nat) (l : List UInt8) : Nat := l.foldl (fun a x => a * 256 + x.toNat) a
def num (l : List UInt8) : Nat := numFrom 0 l
theorem be_length (n : Nat) : ∀ k, (be n k).length = k
  | 0 => rfl
  | k + 1 => by simp [be, be_length n k]
theorem numFrom_cons (a : Nat) (x : UInt8) (l : List UInt8) : numFrom a (x :: l) = numFrom (a * 256 + x.toNat) l := rfl
theorem numFrom_snoc (a : Nat) (l : List UInt8) (x : UInt8) : numFrom a (l ++ [x]) = numFrom a l * 256 + x.toNat := by simp [numFrom]
theorem numFrom_be (n : Nat) : ∀ (k a : Nat), numFrom a (be n k) = a * 2 ^ (8 * k) + n % 2 ^ (8 * k)
  | 0, a => by simp [be, numFrom, Nat.mod_one]
  | k + 1, a => by
    unfold be
    rw [numFrom_cons, numFrom_be n k]
    have h1 : (UInt8.ofNat (n / 2 ^ (8 * k))).toNat = n / 2 ^ (8 * k) % 256 := by simp
    have h2 : (2 : Nat) ^ (8 * (k + 1)) = 2 ^ (8 * k) * 256 := by rw [show 8 * (k + 1) = 8 * k + 8 by omega, Nat.pow_add]
    rw [h1, h2, Nat.mod_mul, Nat.add_mul, Nat.mul_assoc, Nat.mul_comm 256, Nat.mul_comm (n / 2 ^ (8 * k) % 256)]
    omega
theorem num_be {n k : Nat} (h : n < 2 ^ (8 * k)) : num (be n k) = n := by
  unfold num
  rw [numFrom_be, Nat.zero_mul, Nat.zero_add, Nat.mod_eq_of_lt h]
theorem numFrom_lt (l : List UInt8) : ∀ a, numFrom a l < (a + 1) * 2 ^ (8 * l.length) := by
  induction l with
  | nil => intro a; simp [numFrom]
  | cons x l ih =>
    intro a
    rw [numFrom_cons]
    have h1 := ih (a * 256 + x.toNat)
    have h2 := x.toNat_lt
    have h3 : (2 : Nat) ^ (8 * (x :: l).length) = 256 * 2 ^ (8 * l.length) := by rw [List.length_cons, show 8 * (l.length + 1) = 8 + 8 * l.length by omega, Nat.pow_add]
    rw [h3]
    refine Nat.lt_of_lt_of_le h1 ?_
    rw [← Nat.mul_assoc]
    exact Nat.mul_le_mul_right _ (by omega)
theorem num_lt (l : List UInt8) : num l < 2 ^ (8 * l.length) := by have := numFrom_lt l 0; unfold num; omega

/-- the bytes ahead of the data -/
def head (kind : UInt8) (seq n : Nat) : List UInt8 := 165 :: kind :: (be n 2 ++ be seq 8)
def body (kind : UInt8) (seq : Nat) (data : List UInt8) : List UInt8 := head kind seq data.length ++ data
def frame (kind : UInt8) (seq : Nat) (data : List UInt8) : List UInt8 := Cm.sealed (body kind seq data)
theorem head_length (kind : UInt8) (seq n : Nat) : (head kind seq n).length = 12 := by simp [head, be_length]
theorem body_length (kind : UInt8) (seq : Nat) (data : List UInt8) : (body kind seq data).length = data.length + 12 := by unfold body; rw [List.length_append, head_length]; omega
theorem frame_length (kind : UInt8) (seq : Nat) (data : List UInt8) : (frame kind seq data).length = data.length + 16 := by unfold frame; rw [Cm.sealed_length, body_length]
/-- what bytes begin with: an error's number; a record, and how many bytes it has -/
structure Res where
  err : Nat
  kind : UInt8
  seq : Nat
  data : List UInt8
  size : Nat
def bad (e : Nat) : Res := ⟨e, 0, 0, [], 0⟩
def dlen (b : List UInt8) : Nat := num ((b.drop 2).take 2)
def parse (b : List UInt8) : Res :=
  if b.length = 0 ∨ b.getD 0 0 = 255 then bad 13
  else if b.getD 0 0 ≠ 165 ∨ b.length < 16 then bad 3
  else if 4096 < dlen b ∨ b.length < dlen b + 16 then bad 3
  else if Cm.sealed (b.take (12 + dlen b)) ≠ b.take (16 + dlen b) then bad 4
  else ⟨0, b.getD 1 0, num ((b.drop 4).take 8), (b.drop 12).take (dlen b), dlen b + 16⟩
theorem dlen_lt (b : List UInt8) : dlen b < 65536 := by
  have h := num_lt ((b.drop 2).take 2)
  have h2 : ((b.drop 2).take 2).length ≤ 2 := by rw [List.length_take]; omega
  have h3 : (2 : Nat) ^ (8 * ((b.drop 2).take 2).length) ≤ 2 ^ 16 := Nat.pow_le_pow_right (by omega) (by omega)
  unfold dlen
  omega
theorem head_drop2 (kind : UInt8) (seq n : Nat) (l : List UInt8) : ((head kind seq n ++ l).drop 2).take 2 = be n 2 := by
  simp [head, be]
theorem head_drop4 (kind : UInt8) (seq n : Nat) (l : List UInt8) : ((head kind seq n ++ l).drop 4).take 8 = be seq 8 := by
  simp [head, be]
theorem frame_split (kind : UInt8) (seq : Nat) (data rest : List UInt8) : frame kind seq data ++ rest = head kind seq data.length ++ (data ++ (Cm.four (Cm.sum (body kind seq data)) ++ rest)) := by
  unfold frame Cm.sealed body
  simp only [List.append_assoc]
theorem dlen_frame {kind : UInt8} {seq : Nat} {data : List UInt8} (rest : List UInt8) (h : data.length ≤ 4096) : dlen (frame kind seq data ++ rest) = data.length := by
  unfold dlen
  rw [frame_split, head_drop2]
  exact num_be (by omega)
/-- there and back -/
theorem back (kind : UInt8) {seq : Nat} {data : List UInt8} (rest : List UInt8) (h : data.length ≤ 4096) (hs : seq < 18446744073709551616) : parse (frame kind seq data ++ rest) = ⟨0, kind, seq, data, data.length + 16⟩ := by
  have hd := dlen_frame (kind := kind) (seq := seq) rest h
  have hl : (frame kind seq data ++ rest).length = data.length + 16 + rest.length := by rw [List.length_append, frame_length]
  have h0 : (frame kind seq data ++ rest).getD 0 0 = 165 := by rw [frame_split]; rfl
  have h1 : (frame kind seq data ++ rest).getD 1 0 = kind := by rw [frame_split]; rfl
  have ht1 : (frame kind seq data ++ rest).take (12 + data.length) = body kind seq data := by
    rw [frame_split, ← List.append_assoc, ← List.append_assoc]
    have e : (head kind seq data.length ++ data).length = 12 + data.length := by rw [List.length_append, head_length]
    rw [List.append_assoc, List.take_append_of_le_length (by omega), List.take_of_length_le (by omega)]
    rfl
  have ht2 : (frame kind seq data ++ rest).take (16 + data.length) = frame kind seq data := by
    rw [List.take_append_of_le_length (by rw [frame_length]; omega), List.take_of_length_le (by rw [frame_length]; omega)]
  have h4 : num (((frame kind seq data ++ rest).drop 4).take 8) = seq := by
    rw [frame_split, head_drop4]
    exact num_be hs
  have h12 : ((frame kind seq data ++ rest).drop 12).take data.length = data := by
    rw [frame_split, List.drop_append_of_le_length (by rw [head_length]; omega), List.drop_of_length_le (by rw [head_length]; omega), List.nil_append, List.take_append_of_le_length (Nat.le_refl _), List.take_of_length_le (Nat.le_refl _)]
  unfold parse
  rw [hd, hl, h0, h1, ht1, ht2, h4, h12, if_neg (by simp), if_neg (by simp; omega), if_neg (by omega), if_neg (by unfold frame; simp)]
theorem sealed_ne {l : List UInt8} {i : Nat} {x : UInt8} (hi : i < l.length + 4) (hx : (Cm.sealed l)[i]? ≠ some x) : Cm.sealed (((Cm.sealed l).set i x).take l.length) ≠ (Cm.sealed l).set i x := by
  have h := Cm.sealed_one hi hx
  have hl : ((Cm.sealed l).set i x).length = l.length + 4 := by rw [List.length_set, Cm.sealed_length]
  have h2 := Cm.sealed_iff (s := (Cm.sealed l).set i x) (by omega)
  rw [hl, Nat.add_sub_cancel] at h2
  exact fun e => h (h2.1 e)
/-- one byte that is another one: no record of the same length -/
theorem one {kind : UInt8} {seq : Nat} {data : List UInt8} {i : Nat} {x : UInt8} (hi : i < data.length + 16) (hx : (frame kind seq data)[i]? ≠ some x) :
    (parse ((frame kind seq data).set i x)).err ≠ 0 ∨ (parse ((frame kind seq data).set i x)).size ≠ data.length + 16 := by
  obtain ⟨c, hc⟩ : ∃ c, c = (frame kind seq data).set i x := ⟨_, rfl⟩
  have hl : c.length = data.length + 16 := by rw [hc, List.length_set, frame_length]
  have hne : Cm.sealed (c.take (12 + data.length)) ≠ c := by
    have := sealed_ne (l := body kind seq data) (i := i) (x := x) (by rw [body_length]; omega) hx
    rw [body_length, Nat.add_comm data.length 12] at this
    rw [hc]
    exact this
  rw [← hc]
  by_cases hd : dlen c = data.length
  · left
    unfold parse
    rw [hd]
    split
    · simp [bad]
    · split
      · simp [bad]
      · split
        · simp [bad]
        · rw [if_pos]
          · simp [bad]
          · rw [List.take_of_length_le (show c.length ≤ 16 + data.length by omega)]
            exact hne
  · unfold parse
    split
    · left; simp [bad]
    · split
      · left; simp [bad]
      · split
        · left; simp [bad]
        · split
          · left; simp [bad]
          · right
            show dlen c + 16 ≠ data.length + 16
            omega
end Go.Proofs.YtidjajdgphkbbaaRR.Fm
