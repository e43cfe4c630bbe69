/-
  A slice of parts that came in, as the row's step opens it, read as a list; its bodies within the reach.
-/
import Derived.Test.YtlilkcbhlinolaaDoorParts
import Derived.Test.YtlilkcbhlinolaaDoorRowBytes
import Derived.OpenShut
import Derived.ChangeArms
import Derived.ChangeSame
import Derived.ChangeSlices
import Derived.Deep.Slices
import Derived.Lib.SmallJoins
namespace Go.Proofs.YtlilkcbhlinolaaDoor
open Go.ChangeShapes Go.WideShapes Go.ChangeAt Go.RowKit Go.Deep

theorem cells43 : Tryd.prog.cellsOf 43 = 3 := by kernel_rfl
theorem cells41 : Tryd.prog.cellsOf 41 = 2 := by kernel_rfl
theorem cells3 : Tryd.prog.cellsOf 3 = 1 := by kernel_rfl
theorem cells25 : Tryd.prog.cellsOf 25 = 1 := by kernel_rfl
theorem bytesU8 : Tryd.prog.bytesOf 5 = 1 := by kernel_rfl
theorem list_of {α : Type} {R : Nat → α → Prop} : ∀ (n : Nat), (∀ i, i < n → ∃ p, R i p) → ∃ L : List α, L.length = n ∧ ∀ j (h : j < L.length), R j L[j]
  | 0, _ => ⟨[], rfl, fun j h => absurd h (by simp)⟩
  | n + 1, h => by
    obtain ⟨L, hl, hr⟩ := list_of n fun i hi => h i (by omega)
    obtain ⟨p, hp⟩ := h n (by omega)
    refine ⟨L ++ [p], by simp [hl], fun j hj => ?_⟩
    by_cases e : j < L.length
    · rw [List.getElem_append_left e]; exact hr j e
    · have : j = n := by simp at hj; omega
      subst this
      rw [List.getElem_append_right (by omega)]
      simpa [hl] using hp
theorem weightsAll_mem {H : Type} {P : Program} {e : TypeId} {q : Nat → Bool} : ∀ {l : List (DataW H)}, (DataW.weightsAll P e l).all q = true → ∀ d ∈ l, (d.weights P e).all q = true
  | [], _, d, hd => by cases hd
  | a :: l, h, d, hd => by
    rw [DataW.weightsAll, List.all_append, Bool.and_eq_true] at h
    rcases List.mem_cons.1 hd with rfl | hd
    · exact h.1
    · exact weightsAll_mem h.2 d hd
theorem weightsEach_get {H : Type} {P : Program} {q : Nat → Bool} : ∀ {ts : List TypeId} {ds : List (DataW H)} {j : Nat} {t : TypeId} {d : DataW H}, ts[j]? = some t → ds[j]? = some d → (DataW.weightsEach P ts ds).all q = true → (d.weights P t).all q = true
  | [], _, _, _, _, h, _, _ => by cases h
  | _ :: _, [], _, _, _, _, h, _ => by cases h
  | t :: ts, d :: ds, 0, t', d', h, h', hw => by
    obtain rfl : t = t' := Option.some.inj h
    obtain rfl : d = d' := Option.some.inj h'
    rw [DataW.weightsEach, List.all_append, Bool.and_eq_true] at hw
    exact hw.1
  | t :: ts, d :: ds, j + 1, t', d', h, h', hw => by
    rw [DataW.weightsEach, List.all_append, Bool.and_eq_true] at hw
    exact weightsEach_get (ts := ts) (ds := ds) (j := j) h h' hw.2
section
variable {H : Type} {enc : TypeId × Value → H} {W : World}
set_option maxRecDepth 100000 in
/-- one part's three cells, its body's datum within the reach -/
theorem part_of {base n : Nat} {held : Bool} {b off : Nat} {cs : List Value} {x : DataW H × List MemPlace} (hc : ∀ i, i < 3 → W.cell? ⟨b, off + i, none⟩ = cs[i]?) (hl : cs.length = 3)
    (h : DataW.trod enc Tryd.prog W base (fun _ => true) held n 43 cs = some x) :
    ∃ p : Mu.Part, PartAt W W.heap.size b off p ∧ ((x.1.weights Tryd.prog 43).all (· ≤ reachBytes) = true → p.2.2.length ≤ 140737488355328) := by
  obtain ⟨y0, y1, m, rfl, _, t0, t1⟩ := trod_struct2 Tryd.underlying43 h
  match cs, hl with
  | [c0, c1, c2], _ =>
    change DataW.trod enc Tryd.prog W base (fun _ => true) held m 41 (List.take (Tryd.prog.cellsOf 41) (List.drop 0 [c0, c1, c2])) = some y0 at t0
    change DataW.trod enc Tryd.prog W base (fun _ => true) held m 25 (List.take (Tryd.prog.cellsOf 25) (List.drop 2 [c0, c1, c2])) = some y1 at t1
    rw [cells41] at t0
    rw [cells25] at t1
    obtain ⟨z0, z1, m2, rfl, _, u0, u1⟩ := trod_struct2 Tryd.underlying41 t0
    change DataW.trod enc Tryd.prog W base (fun _ => true) held m2 3 (List.take (Tryd.prog.cellsOf 3) (List.drop 0 [c0, c1])) = some z0 at u0
    change DataW.trod enc Tryd.prog W base (fun _ => true) held m2 3 (List.take (Tryd.prog.cellsOf 3) (List.drop 1 [c0, c1])) = some z1 at u1
    rw [cells3] at u0 u1
    obtain ⟨pa, ea, rfl, _⟩ := DataW.trod_int Tryd.underlying3 u0
    obtain ⟨pb, eb, rfl, _⟩ := DataW.trod_int Tryd.underlying3 u1
    obtain rfl : c0 = .int .i64 pa := by simpa using ea
    obtain rfl : c1 = .int .i64 pb := by simpa using eb
    have k0 := hc 0 (by omega)
    have k1 := hc 1 (by omega)
    have k2 := hc 2 (by omega)
    change W.cell? ⟨b, off + 0, none⟩ = some (.int .i64 pa) at k0
    change W.cell? ⟨b, off + 1, none⟩ = some (.int .i64 pb) at k1
    change W.cell? ⟨b, off + 2, none⟩ = some c2 at k2
    rw [Nat.add_zero] at k0
    rcases open_ints Tryd.underlying25 Tryd.underlying5 (by kernel_rfl) t1 with ⟨hcs, rfl⟩ | ⟨a, len, cap, zs, hcs, _, hlc, hm, hz, rfl, hcell, hwz⟩
    · obtain rfl : c2 = .slice none 0 0 := by simpa using hcs
      exact ⟨(pa, pb, []), ⟨k0, k1, none, 0, k2, Nat.le_refl _, Bs.nil _ _ _⟩, fun _ => by simp⟩
    · obtain rfl : c2 = .slice (some a) len cap := by simpa using hcs
      have hz' : zs.length = cap := by simpa using hz
      obtain ⟨l, hbs, hle⟩ := bs_of_rowIn (w := W) (a := some a) (len := len) (cap := cap) (.inr ⟨a, rfl, hlc, hm, hz', hcell, hwz⟩)
      have hll : l.length = len := hbs.len
      refine ⟨(pa, pb, l), ⟨k0, k1, some a, cap, by rw [hll]; exact k2, by rw [hll]; exact hle, by rw [hll]; exact hbs⟩, fun hw => ?_⟩
      dsimp only at hw
      simp only [DataW.weights, Tryd.underlying43, Tryd.underlying25, DataW.weightsEach, List.map_cons, List.map_nil, List.all_append, List.all_cons, Bool.and_eq_true, bytesU8, lits, List.length_map, List.length_take, List.length_drop, reachBytes] at hw
      have h2 := of_decide_eq_true hw.2.1.1
      show l.length ≤ _
      omega
theorem PartAt.spot {W : World} {b off : Nat} {p : Mu.Part} (h : PartAt W W.heap.size b off p) : b < W.heap.size := World.block_lt_of_cell? W _ h.1
set_option maxRecDepth 100000 in
theorem open_parts {n : Nat} {held : Bool} {A : Option Addr} {len cap : Nat} {x : DataW H × List MemPlace} (h : DataW.trod enc Tryd.prog W 0 (fun _ => true) held n 22 [.slice A len cap] = some x) :
    ∃ L : List Mu.Part, Ps W W.heap.size A len L ∧ len ≤ cap ∧ cap ≤ maxLen ∧ ((x.1.weights Tryd.prog 22).all (· ≤ reachBytes) = true → ∀ p ∈ L, p.2.2.length ≤ 140737488355328) := by
  rcases open_slice Tryd.underlying22 h with ⟨hcs, rfl⟩ | ⟨a, l, c, m, n', D, Pl, hcs, _, hlc, hm, hmm, rfl, hi⟩
  · simp at hcs
    obtain ⟨rfl, rfl, rfl⟩ := hcs
    exact ⟨[], Ps.nil _ _ _, Nat.le_refl _, by unfold maxLen; omega, fun _ p hp => by cases hp⟩
  · simp at hcs
    obtain ⟨rfl, rfl, rfl⟩ := hcs
    simp only [if_true] at hmm
    subst hmm
    by_cases hl0 : len = 0
    · subst hl0
      exact ⟨[], Ps.nil _ _ _, hlc, hm, fun _ p hp => by cases hp⟩
    obtain ⟨b, off, spot⟩ := a
    have hsp : spot = none := by
      obtain ⟨cs', hc, _⟩ := hi 0 (by omega)
      rw [cells43] at hc
      obtain ⟨_, hl3, hcell⟩ := World.cells?_some hc
      have h0 := hcell 0 (by omega)
      rw [List.getElem?_eq_getElem (by omega)] at h0
      simpa [Addr.add] using World.cell?_spot h0
    subst hsp
    have ea (j k : Nat) : ((⟨b, off, none⟩ : Addr).add j).add k = ⟨b, off + j + k, none⟩ := by
      simp only [Addr.add]
      split <;> split <;> simp_all
    have hR : ∀ i, i < len → ∃ p : Mu.Part, PartAt W W.heap.size b (off + i * 3) p ∧ (((D i).weights Tryd.prog 43).all (· ≤ reachBytes) = true → p.2.2.length ≤ 140737488355328) := by
      intro i hil
      obtain ⟨cs', hc, ht⟩ := hi i (by omega)
      rw [cells43] at hc
      obtain ⟨_, hl3, hcell⟩ := World.cells?_some hc
      exact part_of (W := W) (b := b) (off := off + i * 3) (cs := cs') (fun k hk => by rw [← ea]; exact hcell k hk) hl3 ht
    obtain ⟨L, hL, hP⟩ := list_of len hR
    refine ⟨L, ⟨hL, fun h0 => ?_⟩, hlc, hm, fun hw p hp => ?_⟩
    · exact ⟨b, off, rfl, (hP 0 (by omega)).1.spot, fun j hj => (hP j hj).1⟩
    · obtain ⟨j, hj, rfl⟩ := List.getElem_of_mem hp
      refine (hP j hj).2 ?_
      rw [DataW.weights, Tryd.underlying22] at hw
      simp only [List.all_cons, List.all_append, Bool.and_eq_true] at hw
      exact weightsAll_mem hw.2.1 (D j) (List.mem_map.2 ⟨j, List.mem_range.2 (by omega), rfl⟩)
end
end Go.Proofs.YtlilkcbhlinolaaDoor
