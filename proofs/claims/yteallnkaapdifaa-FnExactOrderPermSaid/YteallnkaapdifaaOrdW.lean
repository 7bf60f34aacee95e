
/-
  Leading over walls told by cells, and what of two rooms of a plain plan there is. (Plain mathematics.)
-/
import Derived.Test.YteallnkaapdifaaOrdM
import Derived.Test.YteallnkaapdifaaOrdG
import Derived.Test.YteallnkaapdifaaMathCE
namespace Go.Proofs.Yteallnkaapdifaa

/-! # ways by way of other rooms -/
theorem wars_sound {f : Nat → Nat → Bool} : ∀ c a b, wars f c a b = true → Relation.TransGen (fun a b => f a b = true) a b
  | 0, a, b, h => .single h
  | c + 1, a, b, h => by
    rw [wars_succ, Bool.or_eq_true, Bool.and_eq_true] at h
    rcases h with h | ⟨h1, h2⟩
    · exact wars_sound c a b h
    · exact Relation.TransGen.trans (wars_sound c a c h1) (wars_sound c c b h2)
theorem wars_trans {f : Nat → Nat → Bool} : ∀ c k, k < c → ∀ a b, wars f c a k = true → wars f c k b = true → wars f c a b = true
  | 0, k, h, _, _, _, _ => by omega
  | c + 1, k, hk, a, b, h1, h2 => by
    by_cases hkc : k = c
    · subst hkc
      rw [wars_to] at h1
      rw [wars_from] at h2
      rw [wars_succ, h1, h2]; simp
    · have ih := wars_trans (f := f) c k (by omega)
      rw [wars_succ, Bool.or_eq_true, Bool.and_eq_true] at h1 h2 ⊢
      rcases h1 with h1 | ⟨h1, h1'⟩
      · rcases h2 with h2 | ⟨h2, h2'⟩
        · exact .inl (ih a b h1 h2)
        · exact .inr ⟨ih a c h1 h2, h2'⟩
      · rcases h2 with h2 | ⟨h2, h2'⟩
        · exact .inr ⟨h1, ih c b h1' h2⟩
        · exact .inr ⟨h1, h2'⟩
theorem wars_mono {f : Nat → Nat → Bool} {a b : Nat} (h : f a b = true) : ∀ c, wars f c a b = true
  | 0 => h
  | c + 1 => by rw [wars_succ, wars_mono h c]; rfl
theorem wars_iff {f : Nat → Nat → Bool} {n : Nat} (hf : ∀ a b, f a b = true → a < n ∧ b < n) {a b : Nat} : wars f n a b = true ↔ Relation.TransGen (fun a b => f a b = true) a b := by
  refine ⟨wars_sound n a b, fun h => ?_⟩
  induction h with
  | single h => exact wars_mono h n
  | tail _ h ih => exact wars_trans n _ (hf _ _ h).1 _ _ ih (wars_mono h n)

/-! # over walls -/
theorem mem_compactL {xs : List Int} {x : Int} : x ∈ xs → x ∈ compactL xs := by
  induction xs using snoc_ind with
  | h0 => exact fun h => absurd h (List.not_mem_nil)
  | h1 l c ih =>
    intro h
    rw [List.mem_append, List.mem_singleton] at h
    rw [compactL_snoc]
    unfold putL
    rcases h with h | rfl
    · split
      · exact ih h
      · exact List.mem_append_left _ (ih h)
    · split
      · rename_i hl; exact List.mem_of_getLast? hl
      · simp
theorem mem_ahead {g : Nat → Nat → Nat} {X : Wl} {s : Nat} (hs : s < X.long) : ((sideA g X.way X.line (X.first + s) : Nat) : Int) ∈ aheadL g X :=
  mem_compactL (by unfold cellsA; exact List.mem_map.2 ⟨s, List.mem_range.2 hs, rfl⟩)
theorem mem_behind {g : Nat → Nat → Nat} {X : Wl} {s : Nat} (hs : s < X.long) : ((sideB g X.way X.line (X.first + s) : Nat) : Int) ∈ behindL g X :=
  mem_compactL (by unfold cellsB'; exact List.mem_map.2 ⟨s, List.mem_range.2 hs, rfl⟩)
theorem mem_wallsG {h wd w k s : Nat} {g : Nat → Nat → Nat} (hw : w < 2) (hk1 : 1 ≤ k) (hk : k < acrossN h wd w) (hs : s < alongN h wd w) (hf : wayF h wd g w k s = true) (hd : downTo (wayF h wd g w k) s = s) :
    (⟨w, k, s, runFrom (wayF h wd g w k) (alongN h wd w) s⟩ : Wl) ∈ wallsG h wd g := by
  rw [wallsG_two, List.mem_append]
  have := mem_linesW (way := w) (F := wayF h wd g w) (n := alongN h wd w) (k := acrossN h wd w) (l := k) (s := s) hk1 hk hs hf hd
  rcases (show w = 0 ∨ w = 1 by omega) with rfl | rfl
  · exact .inl this
  · exact .inr this
/-- a wall that has some cells of a line -/
theorem wall_of {h wd w k m M : Nat} {g : Nat → Nat → Nat} (hw : w < 2) (hk1 : 1 ≤ k) (hk : k < acrossN h wd w) (hM : M < alongN h wd w) (hmM : m ≤ M) (hf : ∀ i, m ≤ i → i ≤ M → wayF h wd g w k i = true) :
    ∃ X ∈ wallsG h wd g, X.way = w ∧ X.line = k ∧ X.first ≤ m ∧ M < X.first + X.long := by
  generalize hF : wayF h wd g w k = f at hf
  have l1 := downTo_le f (M + 1)
  have l2 := downTo_all f (M + 1)
  have l3 := downTo_stop f (M + 1)
  generalize hb : downTo f (M + 1) = b at l1 l2 l3
  have hbm : b ≤ m := by
    rcases Nat.lt_or_ge m b with hl | hl
    · have := l3 (by omega); rw [hf (b - 1) (by omega) (by omega)] at this; cases this
    · exact hl
  have hd : downTo f b = b := downTo_here (by
    rcases Nat.eq_zero_or_pos b with h0 | h0
    · exact .inl h0
    · exact .inr (l3 h0))
  have hfb := l2 b (Nat.le_refl _) (by omega)
  have hmid := runFrom_mid (f := f) (n := alongN h wd w) (s := b) (i := M) (by omega) (by omega) (fun k a1 a2 => l2 k a1 (by omega))
  have hpos := runFrom_pos (f := f) (n := alongN h wd w) (s := M) hM (hf M hmM (Nat.le_refl _))
  subst hF
  exact ⟨_, mem_wallsG hw hk1 hk (by omega) hfb hd, rfl, rfl, hbm, by show M < b + runFrom _ _ b; omega⟩
theorem justG_iff {h wd w : Nat} {g : Nat → Nat → Nat} (hw : w < 2) {a b : Nat} : justG h wd g w a b = true ↔
    ∃ k s t, 1 ≤ k ∧ k < acrossN h wd w ∧ s < alongN h wd w ∧ t < alongN h wd w ∧ (∀ i, (s ≤ i ∧ i ≤ t) ∨ (t ≤ i ∧ i ≤ s) → wayF h wd g w k i = true) ∧ sideA g w k s = a ∧ sideB g w k t = b := by
  unfold justG justL
  rw [List.any_eq_true]
  constructor
  · rintro ⟨X, hX, ho⟩
    unfold overW at ho
    rw [Bool.and_eq_true, Bool.and_eq_true, beq_iff_eq, List.contains_eq_mem, List.contains_eq_mem, decide_eq_true_eq, decide_eq_true_eq] at ho
    obtain ⟨hwx, h1, h2⟩ := ho
    obtain ⟨s, hs, e1⟩ := ahead_mem h1
    obtain ⟨t, ht, e2⟩ := behind_mem h2
    obtain ⟨m1, m2, m3, m4, m5, m6⟩ := wallsG_mem hX
    subst hwx
    exact ⟨X.line, X.first + s, X.first + t, m2, m3, by omega, by omega, fun i hi => m6 i (by omega) (by omega), by omega, by omega⟩
  · rintro ⟨k, s, t, k1, k2, s1, t1, hp, ea, eb⟩
    obtain ⟨X, hX, x1, x2, x3, x4⟩ := wall_of (m := min s t) (M := max s t) hw k1 k2 (by omega) (by omega) (fun i i1 i2 => hp i (by omega))
    refine ⟨X, hX, ?_⟩
    unfold overW
    rw [Bool.and_eq_true, Bool.and_eq_true, beq_iff_eq, List.contains_eq_mem, List.contains_eq_mem, decide_eq_true_eq, decide_eq_true_eq]
    refine ⟨x1, ?_, ?_⟩
    · have := mem_ahead (g := g) (X := X) (s := s - X.first) (by omega)
      rwa [x1, x2, show X.first + (s - X.first) = s by omega, ea] at this
    · have := mem_behind (g := g) (X := X) (s := t - X.first) (by omega)
      rwa [x1, x2, show X.first + (t - X.first) = t by omega, eb] at this
theorem justG_left {h wd : Nat} {g : Nat → Nat → Nat} {a b : Nat} : justG h wd g 0 a b = true ↔ JL h wd g a b := by
  rw [justG_iff (by omega)]
  unfold JL
  constructor
  · rintro ⟨k, s, t, k1, k2, s1, t1, hp, ea, eb⟩
    refine ⟨k, s, t, k1, k2, s1, t1, fun i hi => ?_, ea, eb⟩
    have := hp i hi
    unfold wayF upF at this
    rw [if_pos rfl, Bool.and_eq_true, decide_eq_true_eq, decide_eq_true_eq] at this
    exact this.2
  · rintro ⟨k, s, t, k1, k2, s1, t1, hp, ea, eb⟩
    refine ⟨k, s, t, k1, k2, s1, t1, fun i hi => ?_, ea, eb⟩
    unfold wayF upF
    rw [if_pos rfl, Bool.and_eq_true, decide_eq_true_eq, decide_eq_true_eq]
    exact ⟨by omega, hp i hi⟩
theorem justG_above {h wd : Nat} {g : Nat → Nat → Nat} {a b : Nat} : justG h wd g 1 a b = true ↔ JA h wd g a b := by
  rw [justG_iff (by omega)]
  unfold JA
  constructor
  · rintro ⟨k, s, t, k1, k2, s1, t1, hp, ea, eb⟩
    refine ⟨k, s, t, k1, k2, s1, t1, fun i hi => ?_, ea, eb⟩
    have := hp i hi
    unfold wayF lvF at this
    rw [if_neg (by omega), Bool.and_eq_true, decide_eq_true_eq, decide_eq_true_eq] at this
    exact this.2
  · rintro ⟨k, s, t, k1, k2, s1, t1, hp, ea, eb⟩
    refine ⟨k, s, t, k1, k2, s1, t1, fun i hi => ?_, ea, eb⟩
    unfold wayF lvF
    rw [if_neg (by omega), Bool.and_eq_true, decide_eq_true_eq, decide_eq_true_eq]
    exact ⟨by omega, hp i hi⟩
theorem trans_congr {R R' : Nat → Nat → Prop} (h : ∀ a b, R a b ↔ R' a b) {a b : Nat} : Relation.TransGen R a b ↔ Relation.TransGen R' a b := by
  have : R = R' := by funext a b; exact propext (h a b)
  rw [this]
theorem leadG_left {h wd r : Nat} {g : Nat → Nat → Nat} (hg : ∀ i j, i < h → j < wd → g i j < r) {a b : Nat} : leadG h wd r g 0 a b = true ↔ LL h wd g a b := by
  unfold leadG LL
  rw [wars_iff (justG_in hg 0)]
  exact trans_congr fun a b => justG_left
theorem leadG_above {h wd r : Nat} {g : Nat → Nat → Nat} (hg : ∀ i j, i < h → j < wd → g i j < r) {a b : Nat} : leadG h wd r g 1 a b = true ↔ AA h wd g a b := by
  unfold leadG AA
  rw [wars_iff (justG_in hg 1)]
  exact trans_congr fun a b => justG_above

/-! # upside down -/
theorem JL_flip {h wd : Nat} {g : Nat → Nat → Nat} {a b : Nat} : JL h wd (fun i j => g (h - 1 - i) j) a b ↔ JL h wd g a b := by
  have key : ∀ (g : Nat → Nat → Nat) {a b : Nat}, JL h wd g a b → JL h wd (fun i j => g (h - 1 - i) j) a b := by
    rintro g a b ⟨k, s, t, k1, k2, s1, t1, hp, ea, eb⟩
    refine ⟨k, h - 1 - s, h - 1 - t, k1, k2, by omega, by omega, fun i hi => hp (h - 1 - i) (by omega), ?_, ?_⟩
    · show g (h - 1 - (h - 1 - s)) (k - 1) = a
      rw [show h - 1 - (h - 1 - s) = s by omega]; exact ea
    · show g (h - 1 - (h - 1 - t)) k = b
      rw [show h - 1 - (h - 1 - t) = t by omega]; exact eb
  refine ⟨fun hj => ?_, key g⟩
  obtain ⟨k, s, t, k1, k2, s1, t1, hp, ea, eb⟩ := key _ hj
  refine ⟨k, s, t, k1, k2, s1, t1, fun i hi => ?_, ?_, ?_⟩
  · have := hp i hi
    simp only at this
    rwa [show h - 1 - (h - 1 - i) = i by omega] at this
  · simp only at ea; rwa [show h - 1 - (h - 1 - s) = s by omega] at ea
  · simp only at eb; rwa [show h - 1 - (h - 1 - t) = t by omega] at eb
theorem JA_flip {h wd : Nat} {g : Nat → Nat → Nat} {a b : Nat} : JA h wd (fun i j => g (h - 1 - i) j) a b ↔ JA h wd g b a := by
  constructor
  · rintro ⟨k, s, t, k1, k2, s1, t1, hp, ea, eb⟩
    refine ⟨h - k, t, s, by omega, by omega, t1, s1, fun j hj => ?_, ?_, ?_⟩
    · have := hp j (by omega)
      simp only at this
      rw [show h - 1 - (k - 1) = h - k by omega, show h - 1 - k = h - k - 1 by omega] at this
      exact fun e => this e.symm
    · simp only at eb; rwa [show h - 1 - k = h - k - 1 by omega] at eb
    · simp only at ea; rwa [show h - 1 - (k - 1) = h - k by omega] at ea
  · rintro ⟨k, s, t, k1, k2, s1, t1, hp, ea, eb⟩
    refine ⟨h - k, t, s, by omega, by omega, t1, s1, fun j hj => ?_, ?_, ?_⟩
    · have := hp j (by omega)
      show g (h - 1 - (h - k - 1)) j ≠ g (h - 1 - (h - k)) j
      rw [show h - 1 - (h - k - 1) = k by omega, show h - 1 - (h - k) = k - 1 by omega]
      exact fun e => this e.symm
    · show g (h - 1 - (h - k - 1)) t = a
      rw [show h - 1 - (h - k - 1) = k by omega]; exact eb
    · show g (h - 1 - (h - k)) s = b
      rw [show h - 1 - (h - k) = k - 1 by omega]; exact ea
theorem LL_flip {h wd : Nat} {g : Nat → Nat → Nat} {a b : Nat} : LL h wd (fun i j => g (h - 1 - i) j) a b ↔ LL h wd g a b := trans_congr fun _ _ => JL_flip
theorem trans_swap {R : Nat → Nat → Prop} {a b : Nat} (h : Relation.TransGen R a b) : Relation.TransGen (fun x y => R y x) b a := by
  induction h with
  | single h => exact .single h
  | tail _ h ih => exact Relation.TransGen.trans (.single h) ih
theorem AA_flip {h wd : Nat} {g : Nat → Nat → Nat} {a b : Nat} : AA h wd (fun i j => g (h - 1 - i) j) a b ↔ AA h wd g b a := by
  unfold AA
  rw [trans_congr (R' := fun a b => JA h wd g b a) fun _ _ => JA_flip]
  exact ⟨trans_swap, trans_swap⟩
theorem rect_flip {h wd : Nat} {g : Nat → Nat → Nat} (hr : RectG h wd g) : RectG h wd (fun i j => g (h - 1 - i) j) := hr.pull (f := fun i => h - 1 - i) (f' := fun j => j) (pull_back h) (pull_id wd)
theorem noX_flip {h wd : Nat} {g : Nat → Nat → Nat} (nx : NoX h wd g) : NoX h wd (fun i j => g (h - 1 - i) j) := fun i k i1 i2 k1 k2 ⟨a1, a2, a3, a4⟩ => by
  simp only at a1 a2 a3 a4
  rw [show h - 1 - (i - 1) = h - i by omega] at a1 a3 a4
  rw [show h - 1 - i = h - i - 1 by omega] at a2 a3 a4
  exact nx (h - i) k (by omega) (by omega) k1 k2 ⟨a2, a1, fun e => a3 e.symm, fun e => a4 e.symm⟩

/-- each two rooms of a plan are in some order -/
theorem some_order {h wd : Nat} {g : Nat → Nat → Nat} (hr : RectG h wd g) {i j x y : Nat} (hi : i < h) (hj : j < wd) (hx : x < h) (hy : y < wd) (hne : g i j ≠ g x y) :
    LL h wd g (g i j) (g x y) ∨ LL h wd g (g x y) (g i j) ∨ AA h wd g (g i j) (g x y) ∨ AA h wd g (g x y) (g i j) := by
  obtain ⟨ro, co, a, b, ha, hb, hin⟩ := hr i j hi hj
  obtain ⟨ro', co', a', b', ha', hb', hin'⟩ := hr x y hx hy
  unfold InR at hin hin'
  have m1 := (hin i j hi hj).1 rfl
  have m2 := (hin' x y hx hy).1 rfl
  -- a column of both
  by_cases hc : co < co' + b' ∧ co' < co + b
  · have hA : g ro (max co co') = g i j := (hin _ _ (by omega) (by omega)).2 (by omega)
    have hB : g ro' (max co co') = g x y := (hin' _ _ (by omega) (by omega)).2 (by omega)
    rcases Nat.le_total ro ro' with hle | hle
    · rcases col_le (h := h) (g := g) (j := max co co') (i := ro) (i' := ro') (wd := wd) (by omega) hle (by omega) with e | e
      · rw [hA, hB] at e; exact absurd e hne
      · rw [hA, hB] at e; exact .inr (.inr (.inl e))
    · rcases col_le (h := h) (g := g) (j := max co co') (i := ro') (i' := ro) (wd := wd) (by omega) hle (by omega) with e | e
      · rw [hA, hB] at e; exact absurd e.symm hne
      · rw [hA, hB] at e; exact .inr (.inr (.inr e))
  · by_cases hrow : ro < ro' + a' ∧ ro' < ro + a
    · have hA : g (max ro ro') co = g i j := (hin _ _ (by omega) (by omega)).2 (by omega)
      have hB : g (max ro ro') co' = g x y := (hin' _ _ (by omega) (by omega)).2 (by omega)
      rcases Nat.le_total co co' with hle | hle
      · rcases row_le (h := h) (g := g) (i := max ro ro') (j := co) (j' := co') (wd := wd) (by omega) hle (by omega) with e | e
        · rw [hA, hB] at e; exact absurd e hne
        · rw [hA, hB] at e; exact .inl e
      · rcases row_le (h := h) (g := g) (i := max ro ro') (j := co') (j' := co) (wd := wd) (by omega) hle (by omega) with e | e
        · rw [hA, hB] at e; exact absurd e.symm hne
        · rw [hA, hB] at e; exact .inr (.inl e)
    · -- apart in both: one lies to the lower right of the other, or to the upper right
      have corner : ∀ {g : Nat → Nat → Nat}, RectG h wd g → ∀ {i j x y : Nat}, i < h → j < wd → x < h → y < wd → (∀ i' j', i' < h → j' < wd → g i' j' = g i j → i' < x ∧ j' < y) → LL h wd g (g i j) (g x y) ∨ AA h wd g (g i j) (g x y) := by
        intro g hr i j x y hi hj hx hy hall
        obtain ⟨r, c, C, r1, c1, _⟩ := corner_of hr hi hj
        have := hall (r - 1) (c - 1) (by have := C.rh; omega) (by have := C.cw; omega) C.at_
        exact C.there (q := x) (k := y) (by omega) hx (by omega) hy
      by_cases h1 : ro + a ≤ ro' ∧ co + b ≤ co'
      · rcases corner hr hi hj (x := x) (y := y) hx hy (fun i' j' a1 a2 e => by have := (hin i' j' a1 a2).1 e; omega) with e | e
        · exact .inl e
        · exact .inr (.inr (.inl e))
      · by_cases h2 : ro' + a' ≤ ro ∧ co' + b' ≤ co
        · rcases corner hr hx hy (x := i) (y := j) hi hj (fun i' j' a1 a2 e => by have := (hin' i' j' a1 a2).1 e; omega) with e | e
          · exact .inr (.inl e)
          · exact .inr (.inr (.inr e))
        · have hf := rect_flip hr
          have fl : ∀ {x y : Nat}, x < h → g (h - 1 - (h - 1 - x)) y = g x y := fun {x y} hx => by
            rw [show h - 1 - (h - 1 - x) = x by omega]
          by_cases h3 : ro' + a' ≤ ro ∧ co + b ≤ co'
          · have := corner hf (i := h - 1 - i) (j := j) (x := h - 1 - x) (y := y) (by omega) hj (by omega) hy (fun i' j' a1 a2 e => by
              rw [fl hi] at e
              have := (hin (h - 1 - i') j' (by omega) a2).1 e; omega)
            rw [fl hi, fl hx] at this
            rcases this with e | e
            · exact .inl (LL_flip.1 e)
            · exact .inr (.inr (.inr (AA_flip.1 e)))
          · have := corner hf (i := h - 1 - x) (j := y) (x := h - 1 - i) (y := j) (by omega) hy (by omega) hj (fun i' j' a1 a2 e => by
              rw [fl hx] at e
              have := (hin' (h - 1 - i') j' (by omega) a2).1 e; omega)
            rw [fl hi, fl hx] at this
            rcases this with e | e
            · exact .inr (.inl (LL_flip.1 e))
            · exact .inr (.inr (.inl (AA_flip.1 e)))
/-- never left and below -/
theorem not_cross {h wd : Nat} {g : Nat → Nat → Nat} (hr : RectG h wd g) (nx : NoX h wd g) {a b : Nat} (hA : ∃ i j, i < h ∧ j < wd ∧ g i j = a) (hB : ∃ i j, i < h ∧ j < wd ∧ g i j = b) : ¬ (LL h wd g a b ∧ AA h wd g b a) := by
  rintro ⟨hl, ha⟩
  obtain ⟨i, j, hi, hj, rfl⟩ := hA
  obtain ⟨x, y, hx, hy, rfl⟩ := hB
  refine not_both (rect_flip hr) (noX_flip nx) ⟨h - 1 - i, j, by omega, hj, ?_⟩ ⟨h - 1 - x, y, by omega, hy, ?_⟩ ⟨LL_flip.2 hl, AA_flip.2 ha⟩
  · show g (h - 1 - (h - 1 - i)) j = _
    rw [show h - 1 - (h - 1 - i) = i by omega]
  · show g (h - 1 - (h - 1 - x)) y = _
    rw [show h - 1 - (h - 1 - x) = x by omega]
end Go.Proofs.Yteallnkaapdifaa
