
/-
  For every slice of bytes the law FnPermCut returns true, and the slice reads behind the call as it read before. No condition.
-/
import Derived.Test.YtiaimcedcjapdaaOrdK
import Derived.Test.YtiaimcedcjapdaaCutO
import Derived.Test.YtiaimcedcjapdaaList
import Derived.Test.YtiaimcedcjapdaaDrawQ
import Derived.Test.YtiaimcedcjapdaaDraw
import Derived.Test.YtiaimcedcjapdaaLaws

/-
  Upright cuts and permutations that fall apart. (Plain mathematics.)
-/
namespace Go.Proofs.Ytiaimcedcjapdaa

/-- the greatest of the first numbers of a list, -1 of none -/
def mxI (l : List Int) : Nat → Int
  | 0 => -1
  | i + 1 => if mxI l i < l.getD i 0 then l.getD i 0 else mxI l i
theorem mxI_le {l : List Int} {m : Int} (hm : -1 ≤ m) : ∀ i, mxI l i ≤ m ↔ ∀ j, j < i → l.getD j 0 ≤ m
  | 0 => ⟨fun _ j hj => by omega, fun _ => hm⟩
  | i + 1 => by
    unfold mxI
    constructor
    · intro h j hj
      by_cases e : j = i
      · subst e; split at h <;> omega
      · exact (mxI_le hm i).1 (by split at h <;> omega) j (by omega)
    · intro h
      have h1 := (mxI_le hm i).2 fun j hj => h j (by omega)
      have h2 := h i (by omega)
      split <;> omega
/-- the permutation falls apart behind a place -/
theorem mx_is {x : List Nat} {r i : Nat} (hl : x.length = r) (hi : i < r) (inj : ∀ a b, a < r → b < r → x.getD a 0 = x.getD b 0 → a = b) : mxI (intsL x) (i + 1) = (i : Int) ↔ ∀ j, j ≤ i → x.getD j 0 ≤ i := by
  have at_ : ∀ j, j < r → (intsL x).getD j 0 = ((x.getD j 0 : Nat) : Int) := fun j hj => ints_at x (by omega)
  have le : mxI (intsL x) (i + 1) ≤ (i : Int) ↔ ∀ j, j ≤ i → x.getD j 0 ≤ i := by
    rw [mxI_le (by omega)]
    constructor
    · intro h j hj
      have := h j (by omega)
      rw [at_ j (by omega)] at this
      omega
    · intro h j hj
      have := h j (by omega)
      rw [at_ j (by omega)]
      omega
  constructor
  · intro h; exact le.1 (by omega)
  · intro h
    have h1 := le.2 h
    apply Classical.byContradiction
    intro hn
    have h2 : mxI (intsL x) (i + 1) ≤ (i : Int) - 1 := by omega
    rw [mxI_le (by omega)] at h2
    have := nodup_lt i ((List.range (i + 1)).map fun j => x.getD j 0) (by
      unfold List.Nodup
      rw [List.pairwise_map]
      refine List.Pairwise.imp_of_mem ?_ List.pairwise_lt_range
      intro a b ha hb hab e
      have := inj a b (by have := List.mem_range.1 ha; omega) (by have := List.mem_range.1 hb; omega) e
      omega) (fun z hz => by
      obtain ⟨j, hj, rfl⟩ := List.mem_map.1 hz
      have hj := List.mem_range.1 hj
      have := h2 j hj
      rw [at_ j (by omega)] at this
      omega)
    rw [List.length_map, List.length_range] at this
    omega

/-- a line from end to end -/
def upC (p : List ByteArray) : Prop := ∃ k, 1 ≤ k ∧ k < wideB p ∧ ∀ i, i < p.length → gridG p i (k - 1) ≠ gridG p i k
theorem walls_up {p : List ByteArray} (h : planB p = true) : ((wallsP p).any fun X => decide (X.way = 0) && decide (X.long = p.length)) = true ↔ upC p := by
  have hh := (planP_of h).grid.h1
  rw [wallsP_yes h, List.any_eq_true]
  have wf : ∀ k i, wayF p.length (wideB p) (gridG p) 0 k i = true ↔ i < p.length ∧ gridG p i (k - 1) ≠ gridG p i k := fun k i => by
    show (decide (i < p.length) && decide (gridG p i (k - 1) ≠ gridG p i k)) = true ↔ _
    rw [Bool.and_eq_true, decide_eq_true_eq, decide_eq_true_eq]
  constructor
  · rintro ⟨X, hX, hx⟩
    rw [Bool.and_eq_true, decide_eq_true_eq, decide_eq_true_eq] at hx
    obtain ⟨_, m2, m3, m4, m5, m6⟩ := wallsG_mem hX
    rw [hx.1] at m3 m5 m6
    have m3' : X.line < wideB p := m3
    have m5' : X.first + X.long ≤ p.length := m5
    exact ⟨X.line, m2, m3', fun i hi => ((wf _ _).1 (m6 i (by omega) (by omega))).2⟩
  · rintro ⟨k, k1, k2, hk⟩
    obtain ⟨X, hX, e1, e2, e3, e4⟩ := wall_of (h := p.length) (wd := wideB p) (w := 0) (k := k) (m := 0) (M := p.length - 1) (g := gridG p) (by omega) k1 k2 (by show p.length - 1 < p.length; omega) (by omega) (fun i _ hi => (wf k i).2 ⟨by omega, hk i (by omega)⟩)
    refine ⟨X, hX, ?_⟩
    obtain ⟨_, _, _, _, m5, _⟩ := wallsG_mem hX
    rw [e1] at m5
    have m5' : X.first + X.long ≤ p.length := m5
    rw [Bool.and_eq_true, decide_eq_true_eq, decide_eq_true_eq]
    exact ⟨e1, by omega⟩
/-- all cells of a plan -/
def allC (p : List ByteArray) : Rc := ⟨0, p.length, 0, wideB p⟩
/-- an upright line that parts a plan: all rooms ahead of it are left of those behind it -/
theorem upC_left {p : List ByteArray} (h : plainB p = true) (hc : upC p) : ∃ A : Nat → Prop, (∃ a, a < gridR p ∧ A a) ∧ (∃ b, b < gridR p ∧ ¬ A b) ∧ ∀ a b, a < gridR p → b < gridR p → A a → ¬ A b → pL p 0 a b = true := by
  have hp := plainB_plan h
  have hP := planP_of hp
  have hh := hP.grid.h1
  obtain ⟨k, k1, k2, hk⟩ := hc
  have lt : ∀ a, (∃ i j, i < p.length ∧ j < wideB p ∧ gridG p i j = a) → a < gridR p := by
    rintro a ⟨i, j, hi, hj, rfl⟩; exact gridG_lt hi hj
  have cell : ∀ a, a < gridR p → (allC p).In (gridG p) a := fun a ha => by
    obtain ⟨i, j, hi, hj, e⟩ := room_at ha
    exact ⟨i, j, ⟨Nat.zero_le _, by show i < 0 + p.length; omega, Nat.zero_le _, by show j < 0 + wideB p; omega⟩, e⟩
  have C : (allC p).Clo (gridG p) p.length (wideB p) :=
    ⟨⟨by show 1 ≤ p.length; omega, by show 1 ≤ wideB p; omega, by show 0 + p.length ≤ p.length; omega, by show 0 + wideB p ≤ wideB p; omega⟩, fun _ _ i' j' _ a b _ => ⟨Nat.zero_le _, by show i' < 0 + p.length; omega, Nat.zero_le _, by show j' < 0 + wideB p; omega⟩⟩
  have V : (allC p).Conv p.length (wideB p) (gridG p) := fun a b x _ _ hx _ => cell x (lt x hx)
  have hi : (allC p).ins (0, k) = true := by
    rw [Rc.ins_up rfl]; exact ⟨k1, by show k < 0 + wideB p; omega⟩
  have hf : (allC p).free (gridG p) (0, k) = true := by
    rw [Rc.free_up rfl]; exact fun i _ i2 => hk i (by have : i < 0 + p.length := i2; omega)
  have all : ∀ a, a < gridR p → ¬ ((allC p).left (0, k)).In (gridG p) a → ((allC p).right (0, k)).In (gridG p) a := by
    intro a ha hn
    obtain ⟨i, j, hij, rfl⟩ := cell a ha
    rw [in_left hP.rectG C hi hf hij] at hn
    rw [in_right hP.rectG C hi hf hij]
    omega
  have hw0 : ∀ j, j < wideB p → (allC p).has 0 j := fun j hj => ⟨Nat.le_refl _, by show 0 < 0 + p.length; omega, Nat.zero_le _, by show j < 0 + wideB p; omega⟩
  refine ⟨fun a => ((allC p).left (0, k)).In (gridG p) a, ⟨gridG p 0 0, gridG_lt hh (by omega), (in_left hP.rectG C hi hf (hw0 0 (by omega))).2 k1⟩, ⟨gridG p 0 k, gridG_lt hh k2, fun hn => by
    have : k < k := (in_left hP.rectG C hi hf (hw0 k k2)).1 hn
    omega⟩, fun a b ha hb hA hB => ?_⟩
  have := cut_orders hP.rectG (noX_of h) (fun a b ha hb hne => by
    have := pL_some hp (lt a ha) (lt b hb) hne
    rwa [pL_left, pL_left, pL_above, pL_above] at this) C V hi hf hA (all b hb hB)
  rw [if_pos rfl] at this
  exact pL_left.2 this
/-- rooms that are all left of the others are parted by a line -/
theorem left_upC {p : List ByteArray} (h : plainB p = true) (A : Nat → Prop) (hA : ∃ a, a < gridR p ∧ A a) (hB : ∃ b, b < gridR p ∧ ¬ A b) (hl : ∀ a b, a < gridR p → b < gridR p → A a → ¬ A b → pL p 0 a b = true) : upC p := by
  have hp := plainB_plan h
  have hP := planP_of hp
  have hr := hP.rectG
  have nx := noX_of h
  have lt : ∀ {i j}, i < p.length → j < wideB p → gridG p i j < gridR p := fun hi hj => gridG_lt hi hj
  -- no room of both is above the other
  have no : ∀ {a b}, a < gridR p → b < gridR p → A a → ¬ A b → ¬ AA p.length (wideB p) (gridG p) a b ∧ ¬ AA p.length (wideB p) (gridG p) b a := fun ha hb k1 k2 => by
    have := pL_one h ha hb (hl _ _ ha hb k1 k2)
    rw [← pL_above, ← pL_above, this.2.1, this.2.2]
    exact ⟨by decide, by decide⟩
  -- a column's rooms are of one kind
  have col : ∀ j i i', j < wideB p → i ≤ i' → i' < p.length → (A (gridG p i j) ↔ A (gridG p i' j)) := fun j i i' hj hi hi' => by
    have l1 := lt (i := i) (j := j) (by omega) hj
    have l2 := lt (i := i') (j := j) hi' hj
    rcases col_le (h := p.length) (wd := wideB p) (g := gridG p) hj hi hi' with e | e
    · rw [e]
    · by_cases k1 : A (gridG p i j)
      · by_cases k2 : A (gridG p i' j)
        · exact ⟨fun _ => k2, fun _ => k1⟩
        · exact absurd e (no l1 l2 k1 k2).1
      · by_cases k2 : A (gridG p i' j)
        · exact absurd e (no l2 l1 k2 k1).2
        · exact ⟨fun x => absurd x k1, fun x => absurd x k2⟩
  have col2 : ∀ j i i', j < wideB p → i < p.length → i' < p.length → (A (gridG p i j) ↔ A (gridG p i' j)) := fun j i i' hj hi hi' => by
    rcases Nat.le_total i i' with k | k
    · exact col j i i' hj k hi'
    · exact (col j i' i hj k hi).symm
  obtain ⟨a, ha, kA⟩ := hA
  obtain ⟨b, hb, kB⟩ := hB
  obtain ⟨ia, ja, hia, hja, ea⟩ := room_at ha
  obtain ⟨ib, jb, hib, hjb, eb⟩ := room_at hb
  -- the first column of the other kind
  have step : ∃ k, k + 1 < wideB p ∧ A (gridG p 0 k) ∧ ¬ A (gridG p 0 (k + 1)) := by
    have h0 : 0 < p.length := hP.grid.h1
    have pa : A (gridG p 0 ja) := (col2 ja 0 ia hja h0 hia).2 (by rw [ea]; exact kA)
    have pb : ¬ A (gridG p 0 jb) := fun x => kB (by rw [← eb]; exact (col2 jb 0 ib hjb h0 hib).1 x)
    have hab : ja < jb := by
      have := hl a b ha hb kA kB
      rw [pL_left, ← ea, ← eb] at this
      exact left_cols hr nx hia hja hib hjb this
    apply Classical.byContradiction
    intro hn
    have : ∀ n, ja + n ≤ jb → A (gridG p 0 (ja + n)) := by
      intro n
      induction n with
      | zero => intro _; exact pa
      | succ n ih =>
        intro hle
        apply Classical.byContradiction
        intro hx
        exact hn ⟨ja + n, by omega, ih (by omega), hx⟩
    have := this (jb - ja) (by omega)
    rw [show ja + (jb - ja) = jb by omega] at this
    exact pb this
  obtain ⟨k, hk, k1, k2⟩ := step
  refine ⟨k + 1, by omega, hk, fun i hi e => ?_⟩
  have h0 : 0 < p.length := hP.grid.h1
  have q1 := (col2 k 0 i (by omega) h0 hi).1 k1
  rw [show k + 1 - 1 = k by omega] at e
  rw [e] at q1
  exact k2 ((col2 (k + 1) 0 i hk h0 hi).2 q1)

/-- what the law of upright cuts asks -/
theorem permCut_math {p : List ByteArray} (h : plainB p = true) : (permL p).length = gridR p ∧ 1 ≤ gridR p ∧ gridR p ≤ 9 ∧ ((wallsP p).any fun X => decide (X.way = 0) && decide (X.long = p.length)) = (List.range (gridR p - 1)).any fun i => decide (mxI (intsL (permL p)) (i + 1) = (i : Int)) := by
  have hp := plainB_plan h
  have L1 := first_lin h; have L2 := second_lin h
  have hlen : (permL p).length = gridR p := by rw [permL_yes h, permQ_len]
  refine ⟨hlen, gridR_pos hp, (planP_of hp).few, ?_⟩
  have hx : ∀ a, a < gridR p → (permL p).getD (placeN (secondQ (pL p)) (gridR p) a) 0 = placeN (firstQ (pL p)) (gridR p) a := fun a ha => by rw [permL_yes h, permQ_place L2 ha]
  have inj : ∀ a b, a < gridR p → b < gridR p → (permL p).getD a 0 = (permL p).getD b 0 → a = b := fun a b ha hb e => by
    obtain ⟨a', ha', rfl⟩ := L2.surj ha
    obtain ⟨b', hb', rfl⟩ := L2.surj hb
    rw [hx a' ha', hx b' hb'] at e
    rw [L1.inj ha' hb' e]
  rw [Bool.eq_iff_iff, walls_up hp, List.any_eq_true]
  constructor
  · intro hc
    obtain ⟨A, ⟨a0, ha0, kA0⟩, ⟨b0, hb0, kB0⟩, hl⟩ := upC_left h hc
    -- the last place of a room ahead of the cut
    have last : ∃ i, i < gridR p ∧ (∃ a, a < gridR p ∧ A a ∧ placeN (secondQ (pL p)) (gridR p) a = i) ∧ ∀ a, a < gridR p → A a → placeN (secondQ (pL p)) (gridR p) a ≤ i := by
      have : ∀ n, (∃ a, a < gridR p ∧ A a ∧ gridR p ≤ placeN (secondQ (pL p)) (gridR p) a + n + 1) → ∃ i, i < gridR p ∧ (∃ a, a < gridR p ∧ A a ∧ placeN (secondQ (pL p)) (gridR p) a = i) ∧ ∀ a, a < gridR p → A a → placeN (secondQ (pL p)) (gridR p) a ≤ i := by
        intro n
        induction n with
        | zero =>
          rintro ⟨a, ha, kA, hle⟩
          have := L2.lt ha
          exact ⟨_, this, ⟨a, ha, kA, rfl⟩, fun x hx _ => by have := L2.lt hx; omega⟩
        | succ n ih =>
          rintro ⟨a, ha, kA, hle⟩
          by_cases hm : ∃ x, x < gridR p ∧ A x ∧ placeN (secondQ (pL p)) (gridR p) a < placeN (secondQ (pL p)) (gridR p) x
          · obtain ⟨x, hx, kx, hlt⟩ := hm
            exact ih ⟨x, hx, kx, by omega⟩
          · refine ⟨_, L2.lt ha, ⟨a, ha, kA, rfl⟩, fun x hx kx => ?_⟩
            apply Classical.byContradiction
            intro hn
            exact hm ⟨x, hx, kx, by omega⟩
      exact this (gridR p) ⟨a0, ha0, kA0, by omega⟩
    obtain ⟨i, hi, ⟨am, ham, kAm, em⟩, hmax⟩ := last
    have s2 : ∀ a b, a < gridR p → b < gridR p → A a → ¬ A b → placeN (secondQ (pL p)) (gridR p) a < placeN (secondQ (pL p)) (gridR p) b ∧ placeN (firstQ (pL p)) (gridR p) a < placeN (firstQ (pL p)) (gridR p) b := fun a b ha hb k1 k2 => by
      have := hl a b ha hb k1 k2
      exact ⟨L2.mono ha hb (by unfold secondQ; rw [this]; rfl), L1.mono ha hb (by unfold firstQ; rw [this]; rfl)⟩
    refine ⟨i, List.mem_range.2 ?_, ?_⟩
    · have := (s2 am b0 ham hb0 kAm kB0).1
      have := L2.lt hb0
      omega
    · rw [decide_eq_true_eq, mx_is hlen hi inj]
      intro j hj
      obtain ⟨a, ha, rfl⟩ := L2.surj (show j < gridR p by omega)
      have kA : A a := by
        apply Classical.byContradiction
        intro hn
        have := (s2 am a ham ha kAm hn).1
        omega
      rw [hx a ha]
      -- those ahead of it are ahead of the cut
      apply Classical.byContradiction
      intro hn
      have hcount : (List.range (placeN (firstQ (pL p)) (gridR p) a + 1)).length ≤ i + 1 := by
        have hin : ∀ y, y < placeN (firstQ (pL p)) (gridR p) a + 1 → ∃ c, c < gridR p ∧ placeN (firstQ (pL p)) (gridR p) c = y ∧ placeN (secondQ (pL p)) (gridR p) c ≤ i := fun y hy => by
          have := L1.lt ha
          obtain ⟨c, hc, ec⟩ := L1.surj (show y < gridR p by omega)
          refine ⟨c, hc, ec, ?_⟩
          have kC : A c := by
            apply Classical.byContradiction
            intro hq
            have := (s2 a c ha hc kA hq).2
            omega
          exact hmax c hc kC
        have hch : ∃ f : Nat → Nat, ∀ y, y < placeN (firstQ (pL p)) (gridR p) a + 1 → f y < gridR p ∧ placeN (firstQ (pL p)) (gridR p) (f y) = y ∧ placeN (secondQ (pL p)) (gridR p) (f y) ≤ i := by
          have : ∀ y, ∃ c, y < placeN (firstQ (pL p)) (gridR p) a + 1 → c < gridR p ∧ placeN (firstQ (pL p)) (gridR p) c = y ∧ placeN (secondQ (pL p)) (gridR p) c ≤ i := fun y => by
            by_cases hy : y < placeN (firstQ (pL p)) (gridR p) a + 1
            · obtain ⟨c, hc⟩ := hin y hy; exact ⟨c, fun _ => hc⟩
            · exact ⟨0, fun hq => absurd hq hy⟩
          exact Classical.axiomOfChoice this
        obtain ⟨f, hf⟩ := hch
        have := nodup_lt (i + 1) ((List.range (placeN (firstQ (pL p)) (gridR p) a + 1)).map fun y => placeN (secondQ (pL p)) (gridR p) (f y)) (by
          unfold List.Nodup
          rw [List.pairwise_map]
          refine List.Pairwise.imp_of_mem ?_ List.pairwise_lt_range
          intro u v hu hv huv e
          have f1 := hf u (List.mem_range.1 hu)
          have f2 := hf v (List.mem_range.1 hv)
          have := L2.inj f1.1 f2.1 e
          rw [this] at f1
          omega) (fun z hz => by
          obtain ⟨y, hy, rfl⟩ := List.mem_map.1 hz
          have := (hf y (List.mem_range.1 hy)).2.2
          omega)
        simpa using this
      rw [List.length_range] at hcount
      omega
  · rintro ⟨i, hi, hd⟩
    have hi := List.mem_range.1 hi
    rw [decide_eq_true_eq, mx_is hlen (by omega) inj] at hd
    have low : ∀ a, a < gridR p → placeN (secondQ (pL p)) (gridR p) a ≤ i → placeN (firstQ (pL p)) (gridR p) a ≤ i := fun a ha hle => by
      have := hd _ hle
      rwa [hx a ha] at this
    have high : ∀ b, b < gridR p → ¬ placeN (secondQ (pL p)) (gridR p) b ≤ i → i < placeN (firstQ (pL p)) (gridR p) b := fun b hb hgt => by
      apply Classical.byContradiction
      intro hn
      have := nodup_lt (i + 1) (placeN (firstQ (pL p)) (gridR p) b :: (List.range (i + 1)).map fun j => (permL p).getD j 0) (by
        rw [List.nodup_cons]
        constructor
        · intro hm
          obtain ⟨j, hj, e⟩ := List.mem_map.1 hm
          have hj := List.mem_range.1 hj
          have e2 : (permL p).getD j 0 = (permL p).getD (placeN (secondQ (pL p)) (gridR p) b) 0 := by rw [e, hx b hb]
          have := inj j _ (by omega) (L2.lt hb) e2
          omega
        · unfold List.Nodup
          rw [List.pairwise_map]
          refine List.Pairwise.imp_of_mem ?_ List.pairwise_lt_range
          intro u v hu hv huv e
          have hu := List.mem_range.1 hu
          have hv := List.mem_range.1 hv
          have := inj u v (by omega) (by omega) e
          omega) (fun z hz => by
        rcases List.mem_cons.1 hz with e | e
        · omega
        · obtain ⟨j, hj, rfl⟩ := List.mem_map.1 e
          have := hd j (by have := List.mem_range.1 hj; omega)
          show (permL p).getD j 0 < i + 1
          omega)
      simp at this
      omega
    obtain ⟨a0, ha0, e0⟩ := L2.surj (show 0 < gridR p by omega)
    obtain ⟨b0, hb0, e1⟩ := L2.surj (show i + 1 < gridR p by omega)
    refine left_upC h (fun a => placeN (secondQ (pL p)) (gridR p) a ≤ i) ⟨a0, ha0, by omega⟩ ⟨b0, hb0, by omega⟩ fun a b ha hb kA kB => ?_
    rw [(firstQ_not h ha hb).1, L1.place_iff ha hb, L2.place_iff ha hb, decide_eq_true (show placeN (firstQ (pL p)) (gridR p) a < placeN (firstQ (pL p)) (gridR p) b by have := low a ha kA; have := high b hb kB; omega), decide_eq_true (by omega)]
    rfl
end Go.Proofs.Ytiaimcedcjapdaa

/-
  For every slice of bytes the law FnPermCut returns true, and the slice reads behind the call as it read before. No condition.
-/
namespace Go.Proofs.Ytiaimcedcjapdaa
open Go.ChangeShapes Go.WideShapes Go.ChangeAt Go.RowKit

set_option maxRecDepth 100000 in
set_option maxHeartbeats 4000000 in
theorem fnPermCut_all (aC : Option Addr) (kC : Nat) (lC : List UInt8) (w : World) (mC : lC.length ≤ maxLen) (zC : lC.length ≤ kC) (cC : CellsAt w aC (lC.map byteV)) :
    Calls Try.prog 6 #[.slice aC lC.length kC] w fun e w' => e = .returned (.bool true) ∧ Below w.heap.size w w' := by
  have mC2 := mC
  clear mC2
  by_cases dC : lC.length ≤ 1048576
  · have hdC : decide (1048576 < (lC.length : Int)) = false := by rw [decide_eq_false_iff_not]; omega
    go_enter Try.func6, Try.ntmps6
    go_wp2_with fail
    refine (drawOrderPerm_any _ _ _ _ zC dC cC).mono ?_
    rintro e w1 ⟨⟨roP, rcP, lP, hsm, rfl, c_P⟩, hb⟩
    have hB := hb
    clear hb
    have LP : lP.length ≤ 1048576 := by have := hsm.2.1; omega
    have SP : ∀ s ∈ lP, s.size ≤ 1048576 := fun s h => by have := hsm.2.2 s h; omega
    cases hp : plainB lP
    · -- no plain plan
      have HI := Lib.hid (fun w c => implOrderPerm_any roP rcP lP w LP SP c)
      have HS := Lib.hid (fun w c => specOrderPerm_any roP rcP lP w LP SP c)
      rw [hp, permL_no hp, show intsL [] = [] from rfl] at HI HS
      clear hp
      go_wp2_with fail
      refine (HI.out _ c_P).mono ?_
      rintro e w2 ⟨⟨roO, rcO, rfl, ow⟩, hb⟩
      replace c_P := c_P.below hb
      replace hB := below_step hB hB.size hb
      clear hb
      have c_O := owns_cells ow
      clear ow
      go_wp2_with fail
      refine (HS.out _ c_P).mono ?_
      rintro e w3 ⟨⟨roW, rcW, rfl, ow⟩, hb⟩
      replace c_P := c_P.below hb
      replace c_O := c_O.below hb
      replace hB := below_step hB hB.size hb
      clear hb
      have c_W := owns_cells ow
      clear ow
      go_wp2_with fail
      refine (sameInts_any _ _ _ _ _ _ [] [] _ rfl rfl (by exact Nat.zero_le _) c_O c_W).mono ?_
      rw [eqI_self]
      rintro e w4 ⟨rfl, hq⟩
      have hb := quiet_below hq
      clear hq
      replace c_P := c_P.below hb
      replace c_O := c_O.below hb
      replace c_W := c_W.below hb
      replace hB := below_step hB hB.size hb
      clear hb
      go_wp2_with fail
      refine (sameInts_any _ _ _ _ _ _ [] [] _ rfl rfl (by exact Nat.zero_le _) c_O c_W).mono ?_
      rw [eqI_self]
      rintro e w5 ⟨rfl, hq⟩
      have hb := quiet_below hq
      clear hq
      replace c_P := c_P.below hb
      replace c_O := c_O.below hb
      replace c_W := c_W.below hb
      replace hB := below_step hB hB.size hb
      clear hb
      go_wp2
      go_ret
      exact ⟨rfl, hB⟩
    · -- a plain plan
      have HI := Lib.hid (fun w c => implOrderPerm_any roP rcP lP w LP SP c)
      have HS := Lib.hid (fun w c => specOrderPerm_any roP rcP lP w LP SP c)
      have HW := Lib.hid (fun w c => implWallList_any roP rcP lP w LP SP c)
      obtain ⟨m1, m2, m3, m4⟩ := permCut_math hp
      have hpl := plainB_plan hp
      have hle := wallsP_len lP
      rw [hp] at HI HS
      rw [hpl] at HW
      unfold listOr at HW
      clear hpl hp
      obtain ⟨O, hO⟩ : ∃ O, O = permL lP := ⟨_, rfl⟩
      rw [← hO] at m1 m4 HI HS
      clear hO
      generalize gridR lP = R at *
      obtain ⟨L, hL⟩ : ∃ L, L = intsL O := ⟨_, rfl⟩
      rw [← hL] at HI HS m4
      have HLL := Lib.hid (show L.length = R by rw [hL, intsL_len, m1])
      have HRG := Lib.hid (show ∀ i, i < R → 0 ≤ L.getD i 0 from fun i hi => by rw [hL, ints_at _ (by omega)]; omega)
      clear hL m1
      generalize wallsP lP = W at *
      have HM := Lib.hid m4; clear m4
      go_wp2_with fail
      refine (HI.out _ c_P).mono ?_
      rintro e w6 ⟨⟨roO, rcO, rfl, ow⟩, hb⟩
      replace c_P := c_P.below hb
      replace hB := below_step hB hB.size hb
      clear hb
      have c_O := owns_cells ow
      clear ow
      go_wp2_with fail
      refine (HS.out _ c_P).mono ?_
      rintro e w7 ⟨⟨roW, rcW, rfl, ow⟩, hb⟩
      replace c_P := c_P.below hb
      replace c_O := c_O.below hb
      replace hB := below_step hB hB.size hb
      clear hb
      have c_W := owns_cells ow
      clear ow
      go_wp2_with fail
      refine (sameInts_any _ _ _ _ _ _ L L _ rfl rfl (by have := HLL.out; unfold maxLen; omega) c_O c_W).mono ?_
      rw [eqI_self]
      rintro e w8 ⟨rfl, hq⟩
      have hb := quiet_below hq
      clear hq
      replace c_P := c_P.below hb
      replace c_O := c_O.below hb
      replace c_W := c_W.below hb
      replace hB := below_step hB hB.size hb
      clear hb
      go_wp2_with fail
      refine (HW.out _ c_P).mono ?_
      rintro e w9 ⟨⟨roX, rcX, rfl, usX, hus⟩, hb⟩
      replace c_P := c_P.below hb
      replace c_O := c_O.below hb
      replace c_W := c_W.below hb
      replace hB := below_step hB hB.size hb
      clear hb
      have c_X := hus
      clear hus
      have CX := Lib.hid c_X; have CO := Lib.hid c_O; have CP := Lib.hid c_P; have HB9 := Lib.hid hB
      clear c_P c_O c_W c_X hB
      go_wp2
      go_loopw [10, 11] (fun vc vi wr => ∃ i : Nat, i ≤ W.length ∧ vi = .int .i64 i ∧ vc = .bool ((W.take i).any fun X => decide (X.way = 0) && decide (X.long = lP.length)) ∧ Below w9.heap.size w9 wr) (fun _ vi _ => W.length - (intOf vi).toNat)
      case atStart => exact ⟨0, Nat.zero_le _, rfl, rfl, Below.refl _ _⟩
      case round =>
        obtain ⟨i, hi, rfl, rfl, hq⟩ := hrel
        by_cases hlt : i < W.length
        · have hlt' : decide ((i : Int) < (W.length : Int)) = true := by rw [decide_eq_true_eq]; omega
          obtain ⟨bb, off, gg, cc, rfl, k0, x0, _, _, x3⟩ := rows_wl (CX.out.below hq) hlt
          have hst : ((W.take (i + 1)).any fun X => decide (X.way = 0) && decide (X.long = lP.length)) = (((W.take i).any fun X => decide (X.way = 0) && decide (X.long = lP.length)) || (decide ((W.getD i zeroWl).way = 0) && decide ((W.getD i zeroWl).long = lP.length))) := by rw [take_snoc W i zeroWl hlt, List.any_append]; simp
          have HST := Lib.hid hst; clear hst
          generalize ((W.take i).any fun X => decide (X.way = 0) && decide (X.long = lP.length)) = o1 at *
          generalize (W.getD i zeroWl).way = xw at *
          generalize (W.getD i zeroWl).long = xl at *
          have i1 : (i : Int) < (W.length : Int) := by omega
          rcases Bool.eq_false_or_eq_true o1 with h1 | h1
          · rw [h1]
            go_wp2
            go_roundw
            case rel => exact ⟨i + 1, by omega, by go_num, by rw [HST.out]; simp [h1], hq⟩
            case measure => simp [intOf]; omega
          · rw [h1]
            by_cases a1 : xw = 0
            · have a1d : ((xw : Int) == 0) = true := by rw [beq_iff_eq]; omega
              by_cases b1 : xl = lP.length
              · have b1d : ((xl : Int) == (lP.length : Int)) = true := by rw [beq_iff_eq]; omega
                go_wp2
                go_roundw
                case rel => exact ⟨i + 1, by omega, by go_num, by rw [HST.out]; simp [h1, a1, b1], hq⟩
                case measure => simp [intOf]; omega
              · have b1d : ((xl : Int) == (lP.length : Int)) = false := by rw [beq_eq_false_iff_ne]; omega
                go_wp2
                go_roundw
                case rel => exact ⟨i + 1, by omega, by go_num, by rw [HST.out]; simp [h1, a1, b1], hq⟩
                case measure => simp [intOf]; omega
            · have a1d : ((xw : Int) == 0) = false := by rw [beq_eq_false_iff_ne]; omega
              go_wp2
              go_roundw
              case rel => exact ⟨i + 1, by omega, by go_num, by rw [HST.out]; simp [h1, a1], hq⟩
              case measure => simp [intOf]; omega
        · obtain rfl : i = W.length := by omega
          have hlt' : decide ((W.length : Int) < (W.length : Int)) = false := by rw [decide_eq_false_iff_not]; omega
          rw [List.take_length, HM.out]
          obtain ⟨AP, hAP⟩ : ∃ AP, AP = ((List.range (R - 1)).any fun i => decide (mxI L (i + 1) = (i : Int))) := ⟨_, rfl⟩
          rw [← hAP]
          have HAP := Lib.hid hAP; clear hAP
          go_wp2
          go_loopw [12, 13, 14] (fun va vm vi wz => ∃ i : Nat, i ≤ R - 1 ∧ vi = .int .i64 i ∧ va = .bool ((List.range i).any fun i => decide (mxI L (i + 1) = (i : Int))) ∧ vm = .int .i64 (mxI L i) ∧ Below w9.heap.size w9 wz) (fun _ _ vi _ => (R - 1) - (intOf vi).toNat)
          case atStart => exact ⟨0, Nat.zero_le _, rfl, rfl, rfl, hq⟩
          case round =>
            clear hq
            obtain ⟨i, hi, rfl, rfl, rfl, hq⟩ := hrel
            by_cases hli : i < R - 1
            · have hli' : decide ((i : Int) + 1 < (L.length : Int)) = true := by rw [decide_eq_true_eq]; have := HLL.out; omega
              have hst : ((List.range (i + 1)).any fun i => decide (mxI L (i + 1) = (i : Int))) = (((List.range i).any fun i => decide (mxI L (i + 1) = (i : Int))) || decide (mxI L (i + 1) = (i : Int))) := by rw [List.range_succ, List.any_append]; simp
              have HST := Lib.hid hst; clear hst
              generalize ((List.range i).any fun i => decide (mxI L (i + 1) = (i : Int))) = o1 at *
              have i1 : (i : Int) < (L.length : Int) := by have := HLL.out; omega
              have i2 : i < L.length := by have := HLL.out; omega
              have i9 : i ≤ 8 := by omega
              obtain ⟨bo, oo, rfl, ko⟩ := (CO.out.below hq).int i i2
              have hmx : mxI L (i + 1) = if mxI L i < L.getD i 0 then L.getD i 0 else mxI L i := rfl
              have HMX := Lib.hid hmx; clear hmx
              generalize hm2 : mxI L (i + 1) = m2 at *
              generalize mxI L i = m at *
              generalize L.getD i 0 = y at *
              have HM2 := Lib.hid hm2; clear hm2
              by_cases hmy : m < y
              · have hm3 : m2 = y := by rw [HMX.out]; rw [if_pos hmy]
                rcases Bool.eq_false_or_eq_true o1 with h1 | h1
                · rw [h1]
                  go_wp2
                  go_roundw
                  case rel => exact ⟨i + 1, by omega, by go_num, by rw [HST.out]; simp [h1], by rw [HM2.out, HMX.out]; rw [if_pos hmy]; try rw [a1], hq⟩
                  case measure => simp [intOf]; omega
                · rw [h1]
                  by_cases a1 : y = (i : Int)
                  · have a1d : (y == (i : Int)) = true := by rw [beq_iff_eq]; exact a1
                    go_wp2
                    go_roundw
                    case rel => exact ⟨i + 1, by omega, by go_num, by rw [HST.out]; simp [h1, hm3, a1], by rw [HM2.out, HMX.out]; rw [if_pos hmy]; try rw [a1], hq⟩
                    case measure => simp [intOf]; omega
                  · have a1d : (y == (i : Int)) = false := by rw [beq_eq_false_iff_ne]; exact a1
                    go_wp2
                    go_roundw
                    case rel => exact ⟨i + 1, by omega, by go_num, by rw [HST.out]; simp [h1, hm3, a1], by rw [HM2.out, HMX.out]; rw [if_pos hmy]; try rw [a1], hq⟩
                    case measure => simp [intOf]; omega
              · have hm3 : m2 = m := by rw [HMX.out]; rw [if_neg hmy]
                rcases Bool.eq_false_or_eq_true o1 with h1 | h1
                · rw [h1]
                  go_wp2
                  go_roundw
                  case rel => exact ⟨i + 1, by omega, by go_num, by rw [HST.out]; simp [h1], by rw [HM2.out, HMX.out]; rw [if_neg hmy]; try rw [a1], hq⟩
                  case measure => simp [intOf]; omega
                · rw [h1]
                  by_cases a1 : m = (i : Int)
                  · have a1d : (m == (i : Int)) = true := by rw [beq_iff_eq]; exact a1
                    go_wp2
                    go_roundw
                    case rel => exact ⟨i + 1, by omega, by go_num, by rw [HST.out]; simp [h1, hm3, a1], by rw [HM2.out, HMX.out]; rw [if_neg hmy]; try rw [a1], hq⟩
                    case measure => simp [intOf]; omega
                  · have a1d : (m == (i : Int)) = false := by rw [beq_eq_false_iff_ne]; exact a1
                    go_wp2
                    go_roundw
                    case rel => exact ⟨i + 1, by omega, by go_num, by rw [HST.out]; simp [h1, hm3, a1], by rw [HM2.out, HMX.out]; rw [if_neg hmy]; try rw [a1], hq⟩
                    case measure => simp [intOf]; omega
            · obtain rfl : i = R - 1 := by omega
              have hli' : decide (((R - 1 : Nat) : Int) + 1 < (L.length : Int)) = false := by rw [decide_eq_false_iff_not]; have := HLL.out; omega
              have hli2 : ¬ R - 1 + 1 < L.length := by have := HLL.out; omega
              rw [← HAP.out]
              have hB := below_step HB9.out HB9.out.size hq
              have hap : (AP == AP) = true := by simp
              go_wp2
              go_ret
              exact ⟨rfl, hB⟩
  · have hdC : decide (1048576 < (lC.length : Int)) = true := by rw [decide_eq_true_eq]; omega
    go_enter Try.func6, Try.ntmps6
    go_wp2
    go_ret
    exact ⟨rfl, Below.refl _ _⟩

set_option maxRecDepth 100000 in
theorem fnPermCut_lifted (os : Os) (started : os.Started) (H : Type) (enc : TypeId × Value → H) :
    ReturnsInHanded {} Try.checked os 6 .any (Rows.fnPermCutSpec.pre6 enc Try.prog Try.f6 Rows.fnPermCutRow.domain false) (Rows.fnPermCutSpec.post enc Try.prog Try.f6 false true false false) := by
  refine returnsInHanded_of_change (C := Try.checked) Try.own started (by kernel_rfl) Try.func6
    (ChangeSpec.witness6 (enc := enc) (C := Try.checked) false ⟨#[], #[.slice none 0 0], []⟩ 8 (by kernel_rfl) (by kernel_rfl) (by kernel_rfl) (by kernel_rfl)) ?_
  intro W base args ds gs before hval0 hW _ _
  have hval : ∀ (j : Nat) t v, Try.f6.params[j]? = some t → args[j]? = some v → Value.okWide Try.prog W .any base t v := hval0
  have hW' := hW
  obtain ⟨p, q, hA0, hV, rfl, _, _⟩ := hW
  have hA : DataW.TrodAll enc Try.prog W 0 (fun _ => true) true Try.f6.params.toList args.toList ds p := hA0
  rw [Try.params6] at hA hval
  obtain ⟨v0, d0, rfl, rfl, h0⟩ := trodAll_one hA
  obtain ⟨rfl, rfl⟩ := trodVars_none hV
  obtain ⟨aC, eC, kC, rfl⟩ := okWide_slice Try.underlying22 (hval 0 22 v0 rfl rfl)
  clear hA0 hval0
  simp only [List.append_nil] at hW'
  have hlt0 : ∀ x ∈ p, x.block < W.heap.size := fun x hx => by simpa using hW'.lt x (by simp [hx])
  obtain ⟨lC, rfl, mC, zC, cC⟩ := open_bytes h0
  refine (fnPermCut_all aC kC lC W mC zC cC).mono fun e W' ⟨he, hb⟩ => ?_
  subst he
  refine ⟨_, rfl, _, _, _, [], _, [], hW', trodAll_mk1 (shut_bool Try.underlying4 _), trodAll_mk1 (Below.trod Try.laidOut (by kernel_rfl) (of_decide_eq_true (by kernel_rfl)) h0 hb hlt0), rfl, hb.frame _, fun h => by cases h⟩

theorem fnPermCut_holds : Rows.FnPermCutSaid :=
  OpenClaim.holds_of_wide 6 Try.f6 rfl rfl rfl rfl rfl rfl rfl ⟨rfl, rfl, rfl, rfl, rfl⟩ rfl rfl rfl rfl rfl (by kernel_rfl) Try.func6 (by kernel_rfl)
    (of_decide_eq_true (by kernel_rfl)) (by unfold Func.isWrapper; first | (rw [if_pos (by decide +kernel)]; kernel_rfl) | (rw [if_neg (by decide +kernel)]; exact ⟨rfl, rfl⟩))
    (fun os started H enc _ => fnPermCut_lifted os started H enc)

end Go.Proofs.Ytiaimcedcjapdaa
