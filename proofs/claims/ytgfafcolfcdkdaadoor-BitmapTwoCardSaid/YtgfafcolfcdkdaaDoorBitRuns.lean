/-
  Runs (over a program of 65 words).
-/
import Derived.Test.YtgfafcolfcdkdaaDoorBitJoin
import Derived.Test.YtgfafcolfcdkdaaDoorBitList
namespace Go.Proofs.YtgfafcolfcdkdaaDoor
open Go.ChangeShapes Go.WideShapes Go.ChangeAt Go.RowKit Go.Shelf
set_option maxRecDepth 100000
attribute [local go_sem] Oper.semAt_some

theorem Bm.srt_pair (l : List Int) : ∀ k, (Bm.srt l k).Pairwise (· < ·)
  | 0 => List.Pairwise.nil
  | k + 1 => by
    by_cases h : (k : Int) ∈ l
    · rw [Bm.srt_yes h, List.pairwise_append]
      exact ⟨Bm.srt_pair l k, List.pairwise_singleton _ _, fun a ha b hb => by
        obtain rfl := List.mem_singleton.1 hb
        exact (Bm.mem_srt.1 ha).2.2⟩
    · rw [Bm.srt_no h]
      exact Bm.srt_pair l k
theorem numAt_eq {S : List Int} {m : Nat} (h : m < S.length) : numAt S m = S[m] := by
  unfold numAt
  rw [List.getD_eq_getElem?_getD, List.getElem?_eq_getElem h, Option.getD_some]
theorem srt_at {l : List Int} {k m m2 : Nat} (h1 : m < m2) (h2 : m2 < (Bm.srt l k).length) : numAt (Bm.srt l k) m < numAt (Bm.srt l k) m2 := by
  rw [numAt_eq h2, numAt_eq (Nat.lt_trans h1 h2)]
  exact List.pairwise_iff_getElem.1 (Bm.srt_pair l k) m m2 (Nat.lt_trans h1 h2) h2 h1
/-- all that were told lie ahead of a place -/
def Ahead (S : List Int) (m : Nat) (at_ : Int) : Prop := ∀ k, k < m → numAt S k < at_
theorem ahead_gap {l : List Int} {m : Nat} {at_ : Int} (h : Ahead (Bm.srt l 4097) m at_) (h0 : 0 ≤ at_) (hm : m < (Bm.srt l 4097).length) : ∀ i, at_ ≤ i → i < numAt (Bm.srt l 4097) m → decide (i ∈ l) = false := by
  intro i h1 h2
  refine decide_eq_false fun hi => ?_
  have h3 : numAt (Bm.srt l 4097) m ∈ Bm.srt l 4097 := by rw [numAt_eq hm]; exact List.getElem_mem hm
  have h4 := (Bm.mem_srt.1 h3).2.2
  obtain ⟨k, hk, e⟩ := List.mem_iff_getElem.1 (Bm.mem_srt.2 ⟨hi, by omega, by omega⟩ : i ∈ Bm.srt l 4097)
  rw [← numAt_eq hk] at e
  rcases Nat.lt_trichotomy k m with h5 | h5 | h5
  · have := h k h5
    omega
  · subst h5
    omega
  · have := srt_at h5 hk
    omega
theorem ahead_end {l : List Int} {m : Nat} {at_ hi : Int} (h : Ahead (Bm.srt l 4097) m at_) (h0 : 0 ≤ at_) (hh : hi ≤ 4097) (hm : m = (Bm.srt l 4097).length ∨ (m < (Bm.srt l 4097).length ∧ hi ≤ numAt (Bm.srt l 4097) m)) : ∀ i, at_ ≤ i → i < hi → decide (i ∈ l) = false := by
  intro i h1 h2
  refine decide_eq_false fun hi => ?_
  obtain ⟨k, hk, e⟩ := List.mem_iff_getElem.1 (Bm.mem_srt.2 ⟨hi, by omega, by omega⟩ : i ∈ Bm.srt l 4097)
  rw [← numAt_eq hk] at e
  rcases hm with rfl | ⟨hm, h3⟩
  · have := h k hk
    omega
  · rcases Nat.lt_trichotomy k m with h5 | h5 | h5
    · have := h k h5
      omega
    · subst h5
      omega
    · have := srt_at h5 hk
      omega
/-- the runs so far, with those that aren't there up to a place -/
theorem runs_gap {l : List Int} {lo : Int} {n : Nat} {x : Int} (h : ∀ i, lo + n ≤ i → i < x → decide (i ∈ l) = false) (hx : lo + n ≤ x) : Bm.joinM (Bm.runs l (Bm.rng lo n)) (lo + n) x false = Bm.runs l (Bm.rng lo (x - lo).toNat) := by
  have h1 := Bm.join_runs l lo false n (x - (lo + n)).toNat (fun i h1 h2 => h i h1 (by omega))
  rwa [show lo + (n : Int) + ((x - (lo + n)).toNat : Int) = x by omega, show n + (x - (lo + n)).toNat = (x - lo).toNat by omega] at h1
theorem runs_there {l : List Int} {lo x : Int} (h : x ∈ l) (hx : lo ≤ x) : Bm.joinM (Bm.runs l (Bm.rng lo (x - lo).toNat)) x (x + 1) true = Bm.runs l (Bm.rng lo ((x - lo).toNat + 1)) := by
  have h1 := Bm.join_runs l lo true (x - lo).toNat 1 (fun i h1 h2 => decide_eq_true (by rw [show i = x by omega]; exact h))
  rwa [show lo + ((x - lo).toNat : Int) = x by omega] at h1
/-- a variable that holds a row of the call's own, behind a call that has made another row of it -/
theorem Boxed.joined {W w1 : World} {n₀ B : Nat} {t e : TypeId} {size : Nat} {v v' : Value} {k m : Nat} {xs ys : List Value}
    (hv : Boxed W B t v) (hte : t ≠ e) (hrow : W.ownsRow n₀ e size v k xs) (hn₀ : n₀ ≤ W.heap.size) (hB : n₀ ≤ B)
    (hown' : w1.ownsRow n₀ e size v' m ys) (hgrow : W.grownBy w1 v.ownBlock) :
    Boxed w1 B t v ∧ Boxed (w1.setCell ⟨B, 0, none⟩ v') B t v' ∧ (w1.setCell ⟨B, 0, none⟩ v').ownsRow n₀ e size v' m ys ∧ KeepsOthers W (w1.setCell ⟨B, 0, none⟩ v') ∧ Below n₀ W (w1.setCell ⟨B, 0, none⟩ v') ∧
      (∀ B' t' u, Boxed W B' t' u → B' ≠ B → t' ≠ e → Boxed (w1.setCell ⟨B, 0, none⟩ v') B' t' u) := by
  have hv1 : Boxed w1 B t v := hv.kept hgrow (hv.not_row hte hrow)
  have key : ∀ j, v.ownBlock = some j → n₀ ≤ j ∧ ∀ o : Obj, W.heap[j]? = some o → o.isCells = true := by
    intro j ej
    rcases hrow.2 with ⟨rfl, _⟩ | ⟨g, cap, cur, rfl, hbg, hgb, _⟩
    · simp [Value.ownBlock] at ej
    · obtain rfl : g = j := by simpa [Value.ownBlock] using ej
      exact ⟨hbg, fun o ho => by rw [hgb] at ho; cases ho; rfl⟩
  refine ⟨hv1, hv1.set v', hown'.kept (grownBy_setCell' w1 B v') (.inr (hv1.not_row hte hown').symm), ?_, ?_, fun B' t' u h h1 h2 => (h.kept hgrow (h.not_row h2 hrow)).other h1 v'⟩
  · exact (KeepsOthers.of_grownBy hgrow fun j o ej hj => (key j ej).2 o hj).trans (KeepsOthers.setCell _ _ _)
  · exact ((Below.refl n₀ W).grown hgrow hn₀ fun j ej => (key j ej).1).setCell (p := ⟨B, 0, none⟩) hB v'
/-- what stays true while numbers are told: the place so far, the end, the runs so far -/
def RSta (w : World) (lo hi : Int) (l : List Int) (n : Nat) (X : World) : Prop :=
  (∃ v, Boxed X (w.heap.size + 1 + 1 + 1) 43 v ∧ X.ownsRow w.heap.size 48 3 v (Bm.runs l (Bm.rng lo n)).length (runV (Bm.runs l (Bm.rng lo n))) ∧ True) ∧
    Boxed X (w.heap.size + 1) 3 (.int .i64 (lo + n)) ∧ Boxed X (w.heap.size + 1 + 1) 3 (.int .i64 hi) ∧ Below w.heap.size w X
theorem RSta.own {w : World} {lo hi : Int} {l : List Int} {B : Nat} (hB : w.heap.size ≤ B) : OwnFrom B (fun (n : Nat) X => RSta w lo hi l n X) :=
  OwnFrom.and (Own.from (holdsRow_own w.heap.size (w.heap.size + 1 + 1 + 1) 43 48 3 (fun n => (Bm.runs l (Bm.rng lo n)).length) (fun n => runV (Bm.runs l (Bm.rng lo n))) (fun _ _ => True)) _)
    (OwnFrom.and (Own.from (boxed_own _ _ (fun (n : Nat) => .int .i64 (lo + n))) _) (OwnFrom.and (Own.from (boxed_own _ _ (fun _ => _)) _) (ownFrom_below (Nat.le_refl _) hB)))
set_option maxHeartbeats 8000000 in
theorem runs_any (s : Nat → Bool) (l : List Int) (hs : Bm.lst s 4160 = Bm.srt l 4097) (from_ to lo hi : Int) (hlo : lo = cutI from_) (hhi : hi = cutI to) (w : World) (ht : Tab64 w) :
    Calls Tryd.prog 20 #[mapV s, .int .i64 from_, .int .i64 to] w (RunsTo (Bm.runs l (Bm.rng lo (hi - lo).toNat)) w) := by
  have HT := Lib.hid ht
  have HTL := Lib.hid ht.at.lt
  have cF := fun W => cut_any from_ W
  have cT := fun W => cut_any to W
  rw [← hlo] at cF
  rw [← hhi] at cT
  have HLH : Hid (0 ≤ lo ∧ lo ≤ 4097 ∧ 0 ≤ hi ∧ hi ≤ 4097) := Lib.hid (by rw [hlo, hhi]; unfold cutI; omega)
  have cA := fun W => all_any s W
  have HITS := Lib.hid (fun W (h : TabAt W) => all_its s W.heap.size (W.alloc (.cells (mapC s).toArray 27)) (MapAt.new W s) (h.below ((Below.refl _ W).alloc (Nat.le_refl _) _)))
  have HLEN : Hid ((Bm.lst s 4160).length = Bm.cnt s 4160) := Lib.hid (Bm.lst_length s 4160)
  have HLE := Lib.hid (Bm.cnt_le s 4160)
  have a0 := MapAt.new w s
  obtain ⟨w1, hw1⟩ : ∃ w1, w1 = (((w.alloc (.cells (mapC s).toArray 27)).alloc (.cells #[.int .i64 lo] 3)).alloc (.cells #[.int .i64 hi] 3)).alloc (.cells #[.slice none 0 0] 43) := ⟨_, rfl⟩
  have hb1 : Below w.heap.size w w1 := by rw [hw1]; exact ((((Below.refl _ w).alloc (Nat.le_refl _) _).alloc (by simp) _).alloc (by simp; omega) _).alloc (by simp; omega) _
  have hm1 : MapAt w1 w.heap.size s := by
    rw [hw1]
    refine a0.below ((((Below.refl _ _).alloc (Nat.le_refl _) _).alloc (by simp) _).alloc (by simp) _) a0.lt
  have hxa : Boxed w1 (w.heap.size + 1) 3 (.int .i64 lo) := by
    have h9 := Boxed.new (w.alloc (.cells (mapC s).toArray 27)) 3 (.int .i64 lo)
    rw [World.size_alloc] at h9
    rw [hw1]
    exact (h9.alloc _).alloc _
  have hxe : Boxed w1 (w.heap.size + 1 + 1) 3 (.int .i64 hi) := by
    have h9 := Boxed.new ((w.alloc (.cells (mapC s).toArray 27)).alloc (.cells #[.int .i64 lo] 3)) 3 (.int .i64 hi)
    rw [World.size_alloc, World.size_alloc] at h9
    rw [hw1]
    exact h9.alloc _
  have hxo : Boxed w1 (w.heap.size + 1 + 1 + 1) 43 (.slice none 0 0) := by
    have h9 := Boxed.new (((w.alloc (.cells (mapC s).toArray 27)).alloc (.cells #[.int .i64 lo] 3)).alloc (.cells #[.int .i64 hi] 3)) 43 (.slice none 0 0)
    rw [World.size_alloc, World.size_alloc, World.size_alloc] at h9
    rw [hw1]
    exact h9
  have HW1 := Lib.hid hw1
  have HB1 := Lib.hid hb1
  have HXA := Lib.hid hxa
  have HXE := Lib.hid hxe
  have HXO := Lib.hid hxo
  have HR1 := Lib.hid hm1.range
  have HI1 := Lib.hid (map_infoC s)
  rw [hs] at HITS HLEN
  clear ht hlo hhi a0 hs hw1 hb1 hm1 hxa hxe hxo
  unfold mapV at cA ⊢
  generalize Bm.cnt s 4160 = N at *
  generalize mapC s = cs at *
  refine (callsIn_wide (n := 30)).1 ?_
  refine callsIn_of_wp_marks Tryd.func20 rfl trivial ?_ rfl
  simp only [Tryd.ntmps20, List.size_toArray, List.length_cons, List.length_nil, Nat.reduceAdd, Nat.reduceSub, Array.replicate_succ, Array.replicate_zero, List.push_toArray, List.append_toArray, List.nil_append, List.cons_append]
  refine (wpIn_wide (n := 30)).2 ?_
  go_wp2_with (first
    | (go_at_call 28; first | ((with_reducible refine (cF _).mono ?_); rintro e w2 ⟨rfl, rfl⟩; clear cF) | ((with_reducible refine (cT _).mono ?_); rintro e w2 ⟨rfl, rfl⟩; clear cT))
    | (rw [← HW1.out]; refine wpList_load_mid (by rfl) 27 (.tmp 3) (by rfl) w.heap.size 0 (by rfl) cs _ HR1.out Tryd.underlying27 (by rfl) HI1.out ?_)
    | (go_at_call 9; (with_reducible refine (cA _).mono ?_); rintro e w2 ⟨rfl, rfl⟩))
  rename_i Kr hKr
  refine (wpIn_wide (n := 30)).1 ?_
  have hits := HITS.out w1 (HT.out.on HB1.out).at
  have hbV : Below w.heap.size w (w1.alloc (.cells cs.toArray 27)) := HB1.out.alloc HB1.out.size _
  have hxa := HXA.out.alloc (.cells cs.toArray 27)
  have hxe := HXE.out.alloc (.cells cs.toArray 27)
  have hxo := HXO.out.alloc (.cells cs.toArray 27)
  generalize (w1.alloc (.cells cs.toArray 27)) = V at *
  have hlow : w.heap.size + 1 + 1 + 1 < V.heap.size := hxo.lt
  generalize hSS : Bm.srt l 4097 = S at *
  have HSS := Lib.hid hSS
  clear hSS
  have key : ∀ (D n : Nat) (X : World), w.heap.size ≤ D → RSta w lo hi l n X → (∀ i, lo + n ≤ i → i < hi → decide (i ∈ l) = false) → (lo + n ≤ hi ∨ n = 0) → n ≤ 4097 → X.heap[D]? = some (.deferred (some [])) →
      Kr { tmps := #[.agg cs.toArray, .int .i64 from_, .int .i64 to, .pointer (some ⟨w.heap.size, 0, none⟩), undef, undef, .slice none 0 0, .pointer (some ⟨w.heap.size + 1, 0, none⟩), .pointer (some ⟨w.heap.size + 1 + 1, 0, none⟩), .pointer (some ⟨w.heap.size + 1 + 1 + 1, 0, none⟩), undef, .int .i64 from_, .int .i64 lo, .int .i64 to, .int .i64 hi, .agg cs.toArray, .func (.func 23) #[] #[.pointer (some ⟨w1.heap.size, 0, none⟩)], undef, undef, undef, undef, undef, undef, undef, undef, undef, undef, undef, undef, undef, undef, undef, undef, undef, undef, undef, undef, undef, undef, undef, undef, undef], defers := [{ target := .collected D, args := #[] }] } X := by
    intro D n X hD hS hgap hnh hn hK
    obtain ⟨⟨v, hv, hr, -⟩, ha, he, hb⟩ := hS
    have hfin : Bm.joinM (Bm.runs l (Bm.rng lo n)) (lo + n) hi false = Bm.runs l (Bm.rng lo (hi - lo).toNat) := by
      rcases Int.lt_or_le hi (lo + n) with h1 | h1
      · have h2 : n = 0 := by omega
        subst h2
        rw [Bm.joinM_none (by omega), show (hi - lo).toNat = 0 by omega]
      · exact runs_gap hgap h1
    have hl0 := Bm.runs_length l (Bm.rng lo n)
    rw [Bm.rng_length] at hl0
    have hca := ha.cell
    have hce := he.cell
    have hco := hv.cell
    obtain ⟨A0, c0, rfl, -, -⟩ := Vs.of_ownN hr
    have cj := join_any w.heap.size A0 _ c0 (Bm.runs l (Bm.rng lo n)) (lo + n) hi false X rfl hr hb.size (by omega)
    rw [hfin] at cj
    have HR := Lib.hid hr
    have HK := Lib.hid hK
    refine hKr _ _ ?_
    clear hKr hgap hl0 hfin hr hK ha he hv
    generalize Bm.runs l (Bm.rng lo n) = R0 at *
    generalize Bm.runs l (Bm.rng lo (hi - lo).toNat) = RE at *
    dsimp only
    go_wp2_with (go_at_call 29; (with_reducible refine cj.mono ?_); rintro e W1 ⟨A1, c1, rfl, own1, g1⟩)
    have hrow : ∀ j, (Value.slice A0 R0.length c0).ownBlock = some j → w.heap.size ≤ j ∧ ∀ o : Obj, X.heap[j]? = some o → o.isCells = true := by
      intro j ej
      rcases HR.out.2 with ⟨h1, _⟩ | ⟨g, cap, cur, h1, hbg, hgb, _⟩
      · rw [h1] at ej
        simp [Value.ownBlock] at ej
      · rw [h1] at ej
        obtain rfl : g = j := by simpa [Value.ownBlock] using ej
        exact ⟨hbg, fun o ho => by rw [hgb] at ho; cases ho; rfl⟩
    have hK1 : W1.heap[D]? = some (.deferred (some [])) := (KeepsOthers.of_grownBy g1 fun j o ej hj => (hrow j ej).2 o hj).same D _ HK.out rfl
    have hb1 : Below w.heap.size w W1 := hb.grown g1 hb.size fun j ej => (hrow j ej).1
    have hb2 : Below w.heap.size w (W1.putObj D (.deferred none)) := hb1.grown (grownBy_putObj' _ D _) hb1.size (fun q e => by injection e with e; omega)
    have own2 : OwnR (W1.putObj D (.deferred none)) w.heap.size (.slice A1 RE.length c1) RE := ownsRow_putObj own1 (.deferred none) hK1 rfl
    obtain ⟨A9, c9, e9, hrs, hcap⟩ := own2.rs
    injection e9 with e9 _ e8
    subst e9 e8
    refine ⟨by simp, .inl ⟨_, _, rfl, run_takeDeferred hK1, ?_⟩⟩
    exact ⟨_, results_tmp rfl _ _ _, A1, c1, rfl, hrs, hcap, hb2⟩
  refine wpIn_itsF (n := 30) (gf := 23) (lb := #[.pointer (some ⟨w1.heap.size, 0, none⟩)]) rfl all_enters hits (Below.refl _ _) (fun j h => by have := HTL.out; have := hbV.size; omega) (fun _ => rfl)
    (fun m X => ∃ n : Nat, RSta w lo hi l n X ∧ Ahead S m (lo + n) ∧ (lo + n ≤ hi ∨ n = 0))
    (fun cc m X => cc = .exit 0 ∧ ∃ n : Nat, RSta w lo hi l n X ∧ Ahead S m (lo + n) ∧ (lo + n ≤ hi ∨ n = 0) ∧ hi ≤ numAt S m)
    (fun m X Y row hs hg hr => by
      obtain ⟨n, h1, h2⟩ := hs
      exact ⟨n, RSta.own (by omega) n X Y row h1 hg hr, h2⟩)
    (fun cc m X Y row hs hg hr => by
      obtain ⟨h0, n, h1, h2⟩ := hs
      exact ⟨h0, n, RSta.own (by omega) n X Y row h1 hg hr, h2⟩)
    ⟨0, ⟨⟨_, hxo, ⟨rfl, .inl ⟨rfl, rfl⟩⟩, trivial⟩, by rw [show lo + ((0 : Nat) : Int) = lo by omega]; exact hxa, hxe, hbV⟩, fun k hk => by omega, .inr rfl⟩
    (fun m a' _ => a' = { tmps := #[.agg cs.toArray, .int .i64 from_, .int .i64 to, .pointer (some ⟨w.heap.size, 0, none⟩), undef, undef, .slice none 0 0, .pointer (some ⟨w.heap.size + 1, 0, none⟩), .pointer (some ⟨w.heap.size + 1 + 1, 0, none⟩), .pointer (some ⟨w.heap.size + 1 + 1 + 1, 0, none⟩), .int .i64 (numAt S m), .int .i64 from_, .int .i64 lo, .int .i64 to, .int .i64 hi, .agg cs.toArray, .func (.func 23) #[] #[.pointer (some ⟨w1.heap.size, 0, none⟩)], .int .i64 (numAt S m), undef, undef, undef, undef, undef, undef, undef, undef, undef, undef, undef, undef, undef, undef, undef, undef, undef, undef, undef, undef, undef, undef, undef, undef], defers := [] })
    (fun m a' _ X Y row hs hg hr => hs)
    ?assign ?body ?done ?stop
  case assign =>
    rintro l2 m X K hm hX hI hK
    gi_wp2
    exact hK _ _ (Stay.refl _ _) (KeepsFrom.refl _ _) hI rfl
  case body =>
    rintro l2 m a' X hm hX ⟨n, ⟨⟨v, hv, hr, -⟩, ha, he, hb⟩, hah, hnh⟩ rfl
    have hca := ha.cell
    have hce := he.cell
    have hss := HSS.out
    have hlen := HLEN.out
    have hgap := ahead_gap (l := l) (m := m) (at_ := lo + n) (by rw [hss]; exact hah) (by have := HLH.out; omega) (by rw [hss, hlen]; exact hm)
    have hmem : numAt S m ∈ l ∧ 0 ≤ numAt S m ∧ numAt S m < 4097 := by
      have h9 : numAt S m ∈ Bm.srt l 4097 := by rw [hss, numAt_eq (by rw [hlen]; exact hm)]; exact List.getElem_mem _
      exact Bm.mem_srt.1 h9
    have hsrt : ∀ k, k < m → numAt S k < numAt S m := fun k hk => by
      have h9 := srt_at (l := l) (k := 4097) hk (by rw [hss, hlen]; exact hm)
      rwa [hss] at h9
    rw [hss] at hgap
    obtain ⟨x, hx⟩ : ∃ x, x = numAt S m := ⟨_, rfl⟩
    have HXE2 := Lib.hid hx
    rw [← hx] at hgap hmem hsrt ⊢
    clear hx hss hlen
    have HMEM := Lib.hid hmem
    have HSRT := Lib.hid hsrt
    have HAH := Lib.hid hah
    have HNH := Lib.hid hnh
    by_cases hxh : hi ≤ x
    · have d1 : decide (hi ≤ x) = true := decide_eq_true hxh
      have HXH := Lib.hid hxh
      have HR := Lib.hid hr
      clear hgap hmem hsrt hah hnh hxh hr
      gi_wp2
      exact ⟨Stay.refl _ _, KeepsFrom.refl _ _, rfl, n, ⟨⟨v, hv, HR.out, trivial⟩, ha, he, hb⟩, HAH.out, HNH.out, by rw [← HXE2.out]; exact HXH.out⟩
    · have d1 : decide (hi ≤ x) = false := decide_eq_false hxh
      by_cases hxa : lo + (n : Int) ≤ x
      · have d2 : decide (lo + (n : Int) ≤ x) = true := decide_eq_true hxa
        have hgp := runs_gap (l := l) (lo := lo) (n := n) (x := x) hgap hxa
        have hth := runs_there (l := l) (lo := lo) (x := x) hmem.1 (by omega)
        have hwx : IntKind.i64.wrap (x + 1) = x + 1 := IntWalk.i64_in _ (by omega)
        have hl0 := Bm.runs_length l (Bm.rng lo n)
        have hl1 := Bm.runs_length l (Bm.rng lo (x - lo).toNat)
        rw [Bm.rng_length] at hl0 hl1
        have hlh := HLH.out
        have HN2 : Hid (lo + (((x - lo).toNat + 1 : Nat) : Int) = x + 1) := Lib.hid (by omega)
        have HL1 : Hid ((Bm.runs l (Bm.rng lo (x - lo).toNat)).length ≤ 100000) := Lib.hid (by omega)
        have HXI : Hid (x < hi) := Lib.hid (by omega)
        obtain ⟨A0, c0, rfl, -, -⟩ := Vs.of_ownN hr
        have cj1 := join_any w.heap.size A0 _ c0 (Bm.runs l (Bm.rng lo n)) (lo + n) x false X rfl hr hb.size (by omega)
        rw [hgp] at cj1
        have HTH := Lib.hid hth
        have HR := Lib.hid hr
        have hq0 := hv.cell
        generalize Bm.runs l (Bm.rng lo n) = R0 at *
        generalize Bm.runs l (Bm.rng lo (x - lo).toNat) = R1 at *
        generalize hR2 : Bm.runs l (Bm.rng lo ((x - lo).toNat + 1)) = R2 at *
        have HR2 := Lib.hid hR2
        clear hgap hmem hsrt hah hnh hxh hr hxa hgp hth hl0 hl1 hlh hR2
        gi_wp2_with (refine ⟨trivial, ?_⟩; first
          | (refine (CallsIn.inRound l2 (callsIn_wide.2 cj1)).mono ?_; rintro e W1 ⟨A1, c1, rfl, own1, g1⟩; clear cj1; obtain ⟨hv1, hv2, hr2, hk2, hb2, ho2⟩ := Boxed.joined hv (by decide) HR.out hb.size (by omega) own1 g1; have hq1 := hv1.cell; have hq2 := hv1.frozen; have hq3 := hv2.cell; have ha2 := ho2 _ _ _ ha (by omega) (by decide); have he2 := ho2 _ _ _ he (by omega) (by decide); have cj2 := join_any w.heap.size A1 _ c1 R1 x (x + 1) true _ rfl hr2 (Nat.le_trans hb.size hb2.size) HL1.out; rw [HTH.out] at cj2; clear own1 g1 ho2)
          | (refine (CallsIn.inRound l2 (callsIn_wide.2 cj2)).mono ?_; rintro e W2 ⟨A2, c2, rfl, own2, g2⟩; clear cj2; obtain ⟨hv3, hv4, hr4, hk4, hb4, ho4⟩ := Boxed.joined hv2 (by decide) hr2 (Nat.le_trans hb.size hb2.size) (by omega) own2 g2; clear hq1 hq2 hq3; have hq1 := hv3.cell; have hq2 := hv3.frozen; have ha4 := ho4 _ _ _ ha2 (by omega) (by decide); have he4 := ho4 _ _ _ he2 (by omega) (by decide); have hq3 := ha4.cell; have hq4 := ha4.frozen; clear own2 g2 ho4))
        have hb5 := ((hb2.trans hb4).setCell (p := ⟨w.heap.size + 1, 0, none⟩) (by dsimp only; omega) (.int .i64 (x + 1)))
        refine ⟨⟨hb5.size, fun i _ hi => hb5.block i (by have := HTL.out; omega)⟩, ((hk2.trans hk4).trans (KeepsOthers.setCell _ _ _)).from _, (x - lo).toNat + 1, ⟨⟨_, hv4.other (by omega) _, ?_, trivial⟩, ?_, he4.other (by omega) _, hb.trans hb5⟩, ?_, ?_⟩
        · rw [HR2.out]
          exact hr4.kept (grownBy_setCell' _ _ _) (.inr (ha4.not_row (by decide) hr4).symm)
        · rw [HN2.out]
          exact ha4.set _
        · rw [HN2.out]
          intro k hk
          rcases Nat.lt_or_ge k m with h9 | h9
          · have := HSRT.out k h9
            omega
          · rw [show k = m by omega, ← HXE2.out]
            omega
        · rw [HN2.out]
          exact .inl HXI.out
      · have d2 : decide (lo + (n : Int) ≤ x) = false := decide_eq_false hxa
        have HR := Lib.hid hr
        have HXA2 := Lib.hid hxa
        clear hgap hmem hsrt hah hnh hxh hr hxa
        gi_wp2
        refine ⟨Stay.refl _ _, KeepsFrom.refl _ _, n, ⟨⟨v, hv, HR.out, trivial⟩, ha, he, hb⟩, ?_, HNH.out⟩
        intro k hk
        rcases Nat.lt_or_ge k m with h9 | h9
        · exact HAH.out k h9
        · rw [show k = m by omega, ← HXE2.out]
          have := HXA2.out
          omega
  case done =>
    rintro D X hD ⟨n, hS, hah, hnh⟩ hK
    have hlh := HLH.out
    have hss := HSS.out
    have hlen := HLEN.out
    refine key D n X (by have := hbV.size; omega) hS ?_ hnh (by omega) hK
    have h9 := ahead_end (l := l) (m := N) (at_ := lo + n) (hi := hi) (by rw [hss]; exact hah) (by omega) (by omega) (.inl (by rw [hss, hlen]))
    exact h9
  case stop =>
    rintro D cc m X hD hm ⟨rfl, n, hS, hah, hnh, hx⟩ hK
    have hlh := HLH.out
    have hss := HSS.out
    have hlen := HLEN.out
    have hgap := ahead_end (l := l) (m := m) (at_ := lo + n) (hi := hi) (by rw [hss]; exact hah) (by omega) (by omega) (.inr ⟨by rw [hss, hlen]; exact hm, by rw [hss]; exact hx⟩)
    clear hss hlen
    gi_wp2
    exact key D n X (by have := hbV.size; omega) hS hgap hnh (by omega) hK
end Go.Proofs.YtgfafcolfcdkdaaDoor
