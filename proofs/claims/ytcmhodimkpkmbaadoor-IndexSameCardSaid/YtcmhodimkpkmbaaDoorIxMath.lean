/-
  Plain mathematics of an index: what there is of each object; what a bind, a slice, gone generations make of it.
-/
import Derived.WalkKit
namespace Go.Proofs.YtcmhodimkpkmbaaDoor
namespace Ix
/-- a bind: object, generation, tag, length, tick -/
structure Bd where
  obj : Int
  gen : Int
  tag : ByteArray
  len : Int
  tick : Int
abbrev Ad := Int × Int
/-- a slice: its number, its place -/
abbrev Sc := Int × Ad
/-- what there is of an object -/
structure Sl where
  b : Bool
  bind : Bd
  at_ : Ad
  sl : List Sc
  fl : Int
  tomb : Ad
def bd0 : Bd := ⟨0, 0, ByteArray.empty, 0, 0⟩
def sl0 : Sl := ⟨false, bd0, (0, 0), [], 0, (0, 0)⟩
abbrev St := Nat → Sl
def st0 : St := fun _ => sl0
def may (o : Int) : Bool := decide (0 ≤ o ∧ o ≤ 15)
def upd (S : St) (k : Nat) (s : Sl) : St := fun j => if j = k then s else S j
theorem upd_same (S : St) (k : Nat) (s : Sl) : upd S k s k = s := by unfold upd; rw [if_pos rfl]
theorem upd_far (S : St) (k j : Nat) (s : Sl) (h : j ≠ k) : upd S k s j = S j := by unfold upd; rw [if_neg h]
theorem upd_id (S : St) (k : Nat) : upd S k (S k) = S := by
  funext j
  unfold upd
  split
  · rename_i h; rw [h]
  · rfl
/-- one slot behind a bind -/
def bnd1 (s : Sl) (b : Bd) (a : Ad) : Sl :=
  if b.gen ≤ s.fl then s
  else if s.b = false ∨ s.bind.gen < b.gen then ⟨true, b, a, [], s.fl, s.tomb⟩
  else if b.gen = s.bind.gen ∧ b.tag = s.bind.tag ∧ b.len = s.bind.len ∧ s.bind.tick ≤ b.tick then { s with bind := { s.bind with tick := b.tick }, at_ := a }
  else s
/-- a slice among others, by its number -/
def ins (i : Int) (a : Ad) (l : List Sc) : List Sc := l.filter (fun z => decide (z.1 < i)) ++ (i, a) :: l.filter (fun z => decide (i < z.1))
def pc1 (s : Sl) (gen i : Int) (a : Ad) : Sl :=
  if s.b = true ∧ s.bind.gen = gen ∧ 0 ≤ i ∧ i ≤ 4096 then { s with sl := ins i a s.sl } else s
def fgt1 (s : Sl) (gen : Int) (a : Ad) : Sl :=
  let t : Sl := if 0 < gen ∧ s.fl ≤ gen then { s with fl := gen, tomb := a } else s
  if s.b = true ∧ s.bind.gen ≤ gen then ⟨false, bd0, (0, 0), [], t.fl, t.tomb⟩ else t
def bnd (S : St) (b : Bd) (a : Ad) : St := if may b.obj then upd S b.obj.toNat (bnd1 (S b.obj.toNat) b a) else S
def pc (S : St) (o gen i : Int) (a : Ad) : St := if may o then upd S o.toNat (pc1 (S o.toNat) gen i a) else S
def fgt (S : St) (o gen : Int) (a : Ad) : St := if may o then upd S o.toNat (fgt1 (S o.toNat) gen a) else S
/-- the document's way of putting a slice among others: how far it is -/
structure Way where
  out : List Sc
  done : Bool
def step (i : Int) (a : Ad) (w : Way) (z : Sc) : Way :=
  let o1 := if i ≤ z.1 ∧ w.done = false then w.out ++ [(i, a)] else w.out
  let d1 := if i ≤ z.1 ∧ w.done = false then true else w.done
  ⟨if z.1 ≠ i then o1 ++ [z] else o1, d1⟩
def way (i : Int) (a : Ad) (l : List Sc) : Way := l.foldl (step i a) ⟨[], false⟩
theorem way_snoc (i : Int) (a : Ad) (l : List Sc) (z : Sc) : way i a (l ++ [z]) = step i a (way i a l) z := by simp [way]
theorem step_len (i : Int) (a : Ad) (w : Way) (z : Sc) : (step i a w z).out.length ≤ w.out.length + 2 := by
  unfold step
  by_cases h1 : i ≤ z.1 ∧ w.done = false
  · simp only [if_pos h1]
    split <;> simp
  · simp only [if_neg h1]
    split <;> simp
theorem fold_len (i : Int) (a : Ad) : ∀ (l : List Sc) (w : Way), (l.foldl (step i a) w).out.length ≤ w.out.length + 2 * l.length
  | [], w => by simp
  | z :: l, w => by
    have h1 := fold_len i a l (step i a w z)
    have h2 := step_len i a w z
    rw [List.foldl_cons, List.length_cons]
    omega
theorem way_len (i : Int) (a : Ad) (l : List Sc) : (way i a l).out.length ≤ 2 * l.length := by
  have := fold_len i a l ⟨[], false⟩
  simpa [way] using this
/-- rising numbers -/
def Rise (l : List Sc) : Prop := l.Pairwise fun x y => x.1 < y.1
theorem done_rest (i : Int) (a : Ad) : ∀ (l : List Sc) (out : List Sc), l.foldl (step i a) ⟨out, true⟩ = ⟨out ++ l.filter (fun z => decide (z.1 ≠ i)), true⟩
  | [], out => by simp
  | z :: l, out => by
    rw [List.foldl_cons]
    have e : step i a ⟨out, true⟩ z = ⟨out ++ (if z.1 ≠ i then [z] else []), true⟩ := by
      unfold step
      by_cases h : z.1 = i <;> simp [h]
    rw [e, done_rest i a l]
    by_cases h : z.1 = i <;> simp [h]
/-- what comes of it -/
def fin (i : Int) (a : Ad) (w : Way) : List Sc := if w.done then w.out else w.out ++ [(i, a)]
theorem filter_all {l : List Sc} {p : Sc → Bool} (h : ∀ z ∈ l, p z = true) : l.filter p = l := List.filter_eq_self.2 h
theorem filter_none {l : List Sc} {p : Sc → Bool} (h : ∀ z ∈ l, p z = false) : l.filter p = [] := List.filter_eq_nil_iff.2 fun z hz => by rw [h z hz]; simp
theorem fin_rest (i : Int) (a : Ad) : ∀ (l : List Sc) (out : List Sc), Rise l → fin i a (l.foldl (step i a) ⟨out, false⟩) = out ++ ins i a l
  | [], out, _ => by simp [fin, ins]
  | z :: l, out, hr => by
    obtain ⟨h1, h2⟩ := List.pairwise_cons.1 hr
    rw [List.foldl_cons]
    rcases Int.lt_trichotomy z.1 i with h | h | h
    · have e : step i a ⟨out, false⟩ z = ⟨out ++ [z], false⟩ := by
        unfold step
        have h3 : ¬ i ≤ z.1 := by omega
        have h4 : z.1 ≠ i := by omega
        simp [h3, h4]
      rw [e, fin_rest i a l _ h2]
      unfold ins
      rw [List.filter_cons, List.filter_cons, if_pos (by simpa using h), if_neg (by simp; omega)]
      simp
    · have e : step i a ⟨out, false⟩ z = ⟨out ++ [(i, a)], true⟩ := by
        unfold step
        simp [h]
      rw [e, done_rest]
      unfold fin ins
      rw [if_pos rfl, List.filter_cons, List.filter_cons, if_neg (by simp; omega), if_neg (by simp; omega)]
      rw [filter_all (p := fun z => decide (z.1 ≠ i)) (fun y hy => by have := h1 y hy; simp; omega), filter_none (p := fun z => decide (z.1 < i)) (fun y hy => by have := h1 y hy; simp; omega), filter_all (p := fun z => decide (i < z.1)) (fun y hy => by have := h1 y hy; simp; omega)]
      simp
    · have e : step i a ⟨out, false⟩ z = ⟨out ++ [(i, a)] ++ [z], true⟩ := by
        unfold step
        have h3 : i ≤ z.1 := by omega
        have h4 : z.1 ≠ i := by omega
        simp [h3, h4]
      rw [e, done_rest]
      unfold fin ins
      rw [if_pos rfl, List.filter_cons, List.filter_cons, if_neg (by simp; omega), if_pos (by simpa using h)]
      rw [filter_all (p := fun z => decide (z.1 ≠ i)) (fun y hy => by have := h1 y hy; simp; omega), filter_none (p := fun z => decide (z.1 < i)) (fun y hy => by have := h1 y hy; simp; omega), filter_all (p := fun z => decide (i < z.1)) (fun y hy => by have := h1 y hy; simp; omega)]
      simp
theorem fin_way (i : Int) (a : Ad) (l : List Sc) (h : Rise l) : fin i a (way i a l) = ins i a l := by
  have := fin_rest i a l [] h
  simpa [way] using this
theorem ins_rise (i : Int) (a : Ad) (l : List Sc) (h : Rise l) : Rise (ins i a l) := by
  unfold ins Rise
  rw [List.pairwise_append]
  refine ⟨List.Pairwise.filter _ h, List.pairwise_cons.2 ⟨fun y hy => ?_, List.Pairwise.filter _ h⟩, fun x hx y hy => ?_⟩
  · have := (List.mem_filter.1 hy).2
    simpa using this
  · have h1 := (List.mem_filter.1 hx).2
    simp at h1
    rcases List.mem_cons.1 hy with rfl | hy
    · exact h1
    · have h2 := (List.mem_filter.1 hy).2
      simp at h2
      omega
theorem ins_length (i : Int) (a : Ad) : ∀ l : List Sc, (ins i a l).length ≤ l.length + 1 := by
  intro l
  have h : ∀ l : List Sc, (l.filter fun z => decide (z.1 < i)).length + (l.filter fun z => decide (i < z.1)).length ≤ l.length := by
    intro l
    induction l with
    | nil => simp
    | cons z l ih =>
      rw [List.filter_cons, List.filter_cons]
      by_cases h1 : z.1 < i
      · rw [if_pos (by simpa using h1), if_neg (by simp; omega)]
        simp only [List.length_cons]
        omega
      · rw [if_neg (by simpa using h1)]
        split <;> simp only [List.length_cons] <;> omega
  have e : (ins i a l).length = ((l.filter fun z => decide (z.1 < i)).length + (l.filter fun z => decide (i < z.1)).length) + 1 := by
    unfold ins
    rw [List.length_append, List.length_cons]
    rfl
  rw [e]
  exact Nat.succ_le_succ (h l)
/-- an index as it can be: rising slices with numbers that may be; what isn't bound has nothing of a bind -/
structure Ok1 (s : Sl) : Prop where
  rise : Rise s.sl
  num : ∀ z ∈ s.sl, 0 ≤ z.1 ∧ z.1 ≤ 4096
  none : s.b = false → s.bind = bd0 ∧ s.at_ = (0, 0) ∧ s.sl = []
  above : s.b = true → s.fl < s.bind.gen
  fl0 : 0 ≤ s.fl
  tomb0 : s.fl = 0 → s.tomb = (0, 0)
theorem ok_sl0 : Ok1 sl0 := ⟨List.Pairwise.nil, by simp [sl0], fun _ => ⟨rfl, rfl, rfl⟩, fun h => by simp [sl0] at h, by simp [sl0], fun _ => rfl⟩
theorem ok_bnd1 {s : Sl} (h : Ok1 s) (b : Bd) (a : Ad) : Ok1 (bnd1 s b a) := by
  unfold bnd1
  split
  · exact h
  · split
    · exact ⟨List.Pairwise.nil, by simp, fun h => by simp at h, fun _ => by simp; omega, h.fl0, h.tomb0⟩
    · split
      · rename_i h1 h2 h3
        have hb : s.b = true := by
          cases hb : s.b
          · exact absurd (.inl hb) h2
          · rfl
        exact ⟨h.rise, h.num, fun h5 => by simp [hb] at h5, fun _ => h.above hb, h.fl0, h.tomb0⟩
      · exact h
theorem ok_pc1 {s : Sl} (h : Ok1 s) (gen i : Int) (a : Ad) : Ok1 (pc1 s gen i a) := by
  unfold pc1
  split
  · rename_i h1
    refine ⟨ins_rise _ _ _ h.rise, fun z hz => ?_, fun h5 => by simp [h1.1] at h5, h.above, h.fl0, h.tomb0⟩
    unfold ins at hz
    rcases List.mem_append.1 hz with hz | hz
    · exact h.num z (List.mem_filter.1 hz).1
    · rcases List.mem_cons.1 hz with rfl | hz
      · exact ⟨h1.2.2.1, h1.2.2.2⟩
      · exact h.num z (List.mem_filter.1 hz).1
  · exact h
theorem ok_fgt1 {s : Sl} (h : Ok1 s) (gen : Int) (a : Ad) : Ok1 (fgt1 s gen a) := by
  have h0 := h.fl0
  unfold fgt1
  by_cases h1 : 0 < gen ∧ s.fl ≤ gen
  · simp only [if_pos h1]
    by_cases h2 : s.b = true ∧ s.bind.gen ≤ gen
    · rw [if_pos h2]
      exact ⟨List.Pairwise.nil, by simp, fun _ => ⟨rfl, rfl, rfl⟩, fun h => by simp at h, by show (0 : Int) ≤ gen; omega, fun h => by simp at h; omega⟩
    · rw [if_neg h2]
      exact ⟨h.rise, h.num, h.none, fun hb => by
        show gen < s.bind.gen
        have : ¬ s.bind.gen ≤ gen := fun h => h2 ⟨hb, h⟩
        omega, by show (0 : Int) ≤ gen; omega, fun h => by simp at h; omega⟩
  · simp only [if_neg h1]
    by_cases h2 : s.b = true ∧ s.bind.gen ≤ gen
    · rw [if_pos h2]
      exact ⟨List.Pairwise.nil, by simp, fun _ => ⟨rfl, rfl, rfl⟩, fun h => by simp at h, h0, h.tomb0⟩
    · rw [if_neg h2]
      exact h
def Ok (S : St) : Prop := ∀ k, Ok1 (S k)
theorem ok_st0 : Ok st0 := fun _ => ok_sl0
theorem ok_upd {S : St} (h : Ok S) (k : Nat) {s : Sl} (hs : Ok1 s) : Ok (upd S k s) := fun j => by
  unfold upd
  split
  · exact hs
  · exact h j
theorem ok_bnd {S : St} (h : Ok S) (b : Bd) (a : Ad) : Ok (bnd S b a) := by unfold bnd; split; exact ok_upd h _ (ok_bnd1 (h _) b a); exact h
theorem ok_pc {S : St} (h : Ok S) (o gen i : Int) (a : Ad) : Ok (pc S o gen i a) := by unfold pc; split; exact ok_upd h _ (ok_pc1 (h _) gen i a); exact h
theorem ok_fgt {S : St} (h : Ok S) (o gen : Int) (a : Ad) : Ok (fgt S o gen a) := by unfold fgt; split; exact ok_upd h _ (ok_fgt1 (h _) gen a); exact h
end Ix
end Go.Proofs.YtcmhodimkpkmbaaDoor
