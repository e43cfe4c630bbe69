/-
  The library's functions on slices of bytes, over slices that read as lists: Equal, CutPrefix, Cut; a slice of bytes as a text, and a text as bytes; what stands behind some bytes.
-/
import Derived.Test.YtlilkcbhlinolaaDoorBytes
import Derived.Test.YtlilkcbhlinolaaDoorTextLower
import Derived.Test.YtlilkcbhlinolaaDoorShelf
import Derived.Lib.SlBytesRowKit
namespace Go.Proofs.YtlilkcbhlinolaaDoor
open Go.ChangeShapes Go.WideShapes Go.ChangeAt Go.RowKit

/-- bytes as the library's contracts have them -/
def nums (l : List UInt8) : List Int := l.map fun x => (x.toNat : Int)
theorem nums_len (l : List UInt8) : (nums l).length = l.length := by simp [nums]
theorem nums_get (l : List UInt8) (j : Nat) (h : j < l.length) : (nums l).getD j 0 = (l[j].toNat : Int) := by simp [nums, List.getD, h]
theorem nums_byte (l : List UInt8) : ∀ x ∈ nums l, 0 ≤ x ∧ x < 256 := by
  intro x hx
  obtain ⟨c, _, rfl⟩ := List.mem_map.1 hx
  have := c.toNat_lt
  omega
theorem nums_bytes (l : List UInt8) : Lib.bytesOf (nums l) = l := by
  unfold Lib.bytesOf nums
  rw [List.map_map]
  have : (fun n : Int => UInt8.ofNat n.toNat) ∘ (fun x : UInt8 => (x.toNat : Int)) = id := by
    funext x
    simp
  rw [this, List.map_id]
theorem nums_str (l : List UInt8) : strOfNums (nums l) = Str l := str_of (by
  have := Lib.strOfNums_toList (nums l)
  rw [Lib.toList_data, nums_bytes] at this
  exact this)
section
variable {w : World} {B B2 n c m d : Nat} {A A2 : Option Addr} {l p : List UInt8}
theorem Bs.ins (h : Bs w B A n l) : Lib.BytesIn w A n (nums l) := fun h0 => by
  obtain ⟨b, off, e, _, hc⟩ := h.2 h0
  exact ⟨b, off, e, fun i hi => by rw [nums_get l i (by rw [h.1]; exact hi)]; exact hc i (by rw [h.1]; exact hi)⟩
theorem conv_text (h : Bs w B A n l) : (convert 25 9 (.slice A n c)).run Tryd.prog w = .ok (.string (Str l)) w := by
  rw [h.ins.convert (by rw [nums_len, h.1]) c _ _ _ Tryd.underlying25 Tryd.underlying5 Tryd.underlying9, nums_str]
theorem equal_any (h : Bs w B A n l) (h2 : Bs w B2 A2 m p) :
    Calls Tryd.prog 35 #[.slice A n c, .slice A2 m d] w fun e w' => e = .returned (.bool (l == p)) ∧ w = w' :=
  (Tryd.bytes_Equal_all A A2 n c m d (nums l) (nums p) w (by rw [nums_len, h.1]) (by rw [nums_len, h2.1]) h.ins h2.ins).mono fun _ _ ⟨he, hw⟩ => ⟨by rw [he, nums_bytes, nums_bytes], hw.symm⟩
/-- what stands behind the first k bytes: where it lies -/
def behind (A : Option Addr) (c k : Nat) : Option Addr := if c = k then A else A.map (·.add k)
theorem behind_some (a : Addr) (c k : Nat) : ∃ b, behind (some a) c k = some b := by
  unfold behind
  split
  · exact ⟨_, rfl⟩
  · exact ⟨_, rfl⟩
theorem Bs.behind (h : Bs w B A n l) {k : Nat} (hk : k ≤ n) (hc : n ≤ c) : Bs w B (behind A c k) (n - k) (l.drop k) := h.back hk hc
theorem slice_from (A : Option Addr) (n c k : Nat) (h : k ≤ n) (w : World) :
    (Instr.slice 25 (.slice A n c) (some (.int .i64 (k : Int))) none none).run Tryd.prog w = .ok (.slice (behind A c k) (n - k) (c - k)) w := by
  have h1 := run_slice_l (P := Tryd.prog) w 25 A n c (by kernel_rfl) .i64 (k : Int) (by omega) (by omega)
  have h2 : (sizeOf (Tryd.prog.elem 25)).run Tryd.prog w = .ok 1 w := by kernel_rfl
  rw [h1, h2]
  simp [sliced, Result.andThen, Go.Proofs.YtlilkcbhlinolaaDoor.behind]
theorem trim_prefix (h : Bs w B A n l) (hp : Lib.hasPrefix l p = true) : Lib.trimPrefixV A n c (nums l) (nums p) = .slice (Go.Proofs.YtlilkcbhlinolaaDoor.behind A c p.length) (n - p.length) (c - p.length) := by
  rw [trimPrefixV_eq (by rw [nums_len, h.1]) h.ins, nums_bytes, nums_bytes, if_pos hp, nums_len]
  rfl
theorem cutPrefix_yes (h : Bs w B A n l) (hc : n ≤ c) (h2 : Bs w B2 A2 m p) (hp : Lib.hasPrefix l p = true) :
    Calls Tryd.prog 45 #[.slice A n c, .slice A2 m d] w fun e w' => e = .returned (.tuple #[.slice (Go.Proofs.YtlilkcbhlinolaaDoor.behind A c p.length) (n - p.length) (c - p.length), .bool true]) ∧ w = w' :=
  (Tryd.bytes_CutPrefix_all A A2 n c m d (nums l) (nums p) w (by rw [nums_len, h.1]) (by rw [nums_len, h2.1]) hc h.ins h2.ins).mono fun _ _ ⟨he, hw⟩ => ⟨by rw [he, nums_bytes, nums_bytes, hp, trim_prefix h hp], hw.symm⟩
theorem cutPrefix_no (h : Bs w B A n l) (hc : n ≤ c) (h2 : Bs w B2 A2 m p) (hp : Lib.hasPrefix l p = false) :
    Calls Tryd.prog 45 #[.slice A n c, .slice A2 m d] w fun e w' => e = .returned (.tuple #[.slice A n c, .bool false]) ∧ w = w' :=
  (Tryd.bytes_CutPrefix_all A A2 n c m d (nums l) (nums p) w (by rw [nums_len, h.1]) (by rw [nums_len, h2.1]) hc h.ins h2.ins).mono fun _ _ ⟨he, hw⟩ => ⟨by
    rw [he, trimPrefixV_eq (by rw [nums_len, h.1]) h.ins, nums_bytes, nums_bytes, hp]; rfl, hw.symm⟩
theorem prefix_len (hp : Lib.hasPrefix l p = true) : p.length ≤ l.length := by
  unfold Lib.hasPrefix at hp
  exact (List.isPrefixOf_iff_prefix.1 hp).length_le
end
/-- what bytes.Cut hands back: all ahead of the first sep, and all behind it -/
def CutBytes (l p : List UInt8) : List UInt8 × List UInt8 × Bool :=
  if 0 ≤ Lib.index l p then (l.take (Lib.index l p).toNat, l.drop ((Lib.index l p).toNat + p.length), true) else (l, [], false)
def CutBTo (B : Nat) (x : List UInt8 × List UInt8 × Bool) (w : World) (e : Ending) (w' : World) : Prop :=
  (∃ A1 c1 A2 c2, e = .returned (.tuple #[.slice A1 x.1.length c1, .slice A2 x.2.1.length c2, .bool x.2.2]) ∧ Bs w B A1 x.1.length x.1 ∧ x.1.length ≤ c1 ∧ Bs w B A2 x.2.1.length x.2.1 ∧ x.2.1.length ≤ c2) ∧ ∃ q, w' = w.drewN q
theorem index_room {l p : List UInt8} (h0 : 0 ≤ Lib.index l p) (hp : p ≠ []) : (Lib.index l p).toNat + p.length ≤ l.length := by
  rcases Nat.lt_or_ge l.length ((Lib.index l p).toNat + p.length) with h | h
  · exfalso
    by_cases ho : ∃ i, i ≤ l.length ∧ Lib.occAt l p i = true
    · obtain ⟨i, _, hi2⟩ := ho
      have hex : ∃ i, Lib.occAt l p i = true := ⟨i, hi2⟩
      obtain ⟨j, hj, hmin⟩ : ∃ j, Lib.occAt l p j = true ∧ ∀ k, k < j → Lib.occAt l p k = false := by
        clear hi2
        obtain ⟨i, hi⟩ := hex
        induction i using Nat.strongRecOn with
        | ind i ih =>
          by_cases hk : ∃ k, k < i ∧ Lib.occAt l p k = true
          · obtain ⟨k, hk1, hk2⟩ := hk
            exact ih k hk1 hk2
          · exact ⟨i, hi, fun k hk1 => by
              rw [Bool.eq_false_iff]
              exact fun e => hk ⟨k, hk1, e⟩⟩
      rcases Lib.occAt_room hj with hr | hr
      · have := Lib.index_first (s := l) (sub := p) (by omega) hj hmin
        rw [this, Int.toNat_natCast] at h
        omega
      · exact hp hr
    · have := Lib.index_none (s := l) (sub := p) fun i hi => by
        rw [Bool.eq_false_iff]
        exact fun e => ho ⟨i, hi, e⟩
      rw [this] at h0
      omega
  · exact h
theorem cut_bytes {w : World} {B B2 n c m d : Nat} {a : Addr} {A2 : Option Addr} {l p : List UInt8} (h : Bs w B (some a) n l) (hc : n ≤ c) (h2 : Bs w B2 A2 m p) (hn : n < 4294967281) (hm0 : m ≤ 9223372036854775807) (hp : p ≠ [])
    (hm : ∃ x, w.cell? ⟨1, 0, none⟩ = some (.int .i64 x)) :
    Calls Tryd.prog 46 #[.slice (some a) n c, .slice A2 m d] w (CutBTo B (CutBytes l p) w) := by
  obtain ⟨x, hx⟩ := hm
  refine (Tryd.bytes_Cut_all (some a) A2 n c m d (nums l) (nums p) x w (by rw [nums_len, h.1]) (by rw [nums_len, h2.1]) (nums_byte l) (nums_byte p) h.ins h2.ins (fun e => by cases e) hc hn hm0 hx).mono fun e w' ⟨he, hw⟩ => ⟨?_, hw⟩
  subst he
  rw [nums_bytes, nums_bytes]
  have hl := h.1
  have hpm := h2.1
  unfold CutBytes Lib.cutV
  by_cases h0 : 0 ≤ Lib.index l p
  · have hr := index_room h0 hp
    rw [if_pos h0, if_pos h0]
    dsimp only
    have e1 : (l.take (Lib.index l p).toNat).length = (Lib.index l p).toNat := by rw [List.length_take]; omega
    have e2 : (l.drop ((Lib.index l p).toNat + p.length)).length = n - ((Lib.index l p).toNat + m) := by rw [List.length_drop, hl, hpm]
    refine ⟨some a, c, behind (some a) c ((Lib.index l p).toNat + m), c - ((Lib.index l p).toNat + m), ?_, ?_, by rw [e1]; omega, ?_, by rw [e2]; omega⟩
    · rw [e1, e2]; rfl
    · rw [e1]; exact h.front (by omega)
    · rw [e2, hpm]; exact h.behind (by omega) hc
  · rw [if_neg h0, if_neg h0]
    dsimp only
    refine ⟨some a, c, none, 0, ?_, ?_, by rw [hl]; exact hc, Bs.nil _ _ _, Nat.le_refl _⟩
    · rw [hl]; rfl
    · rw [hl]; exact h
theorem Cells.bs {w : World} {g : Nat} {l : List UInt8} (h : Cells w g l) : Bs w w.heap.size (some ⟨g, 0, none⟩) l.length l :=
  ⟨rfl, fun _ => ⟨g, 0, rfl, h.1, fun j hj => by rw [Nat.zero_add]; exact (h.2 j hj).1⟩⟩
end Go.Proofs.YtlilkcbhlinolaaDoor
