/-
  Merged texts: MathA MathB.
-/
import Derived.Test.YtpgcpmfemcfoaaaRowO
import Derived.Test.YtpgcpmfemcfoaaaImplFO

/-
  Plain mathematics: sums over cells, rectangles of cells. No program is named here.
-/
namespace Go.Proofs.Ytpgcpmfemcfoaaa

/-! ### sums -/
def sumN : Nat → (Nat → Nat) → Nat
  | 0, _ => 0
  | n + 1, f => sumN n f + f n

theorem sumN_congr {n : Nat} {f g : Nat → Nat} (h : ∀ i, i < n → f i = g i) : sumN n f = sumN n g := by
  induction n with
  | zero => rfl
  | succ n ih => rw [sumN, sumN, ih (fun i hi => h i (by omega)), h n (by omega)]

theorem sumN_le {n : Nat} {f g : Nat → Nat} (h : ∀ i, i < n → f i ≤ g i) : sumN n f ≤ sumN n g := by
  induction n with
  | zero => exact Nat.le_refl _
  | succ n ih => rw [sumN, sumN]; have := ih (fun i hi => h i (by omega)); have := h n (by omega); omega

theorem sumN_eq {n : Nat} {f g : Nat → Nat} (h : ∀ i, i < n → f i ≤ g i) (he : sumN n f = sumN n g) : ∀ i, i < n → f i = g i := by
  induction n with
  | zero => intro i hi; omega
  | succ n ih =>
    rw [sumN, sumN] at he
    have h1 := sumN_le (n := n) (fun i hi => h i (by omega))
    have h2 := h n (by omega)
    intro i hi
    by_cases hn : i = n
    · subst hn; omega
    · exact ih (fun i hi => h i (by omega)) (by omega) i (by omega)

theorem sumN_const (n c : Nat) : sumN n (fun _ => c) = n * c := by
  induction n with
  | zero => simp [sumN]
  | succ n ih => rw [sumN, ih, Nat.succ_mul]

theorem sumN_add (n : Nat) (f g : Nat → Nat) : sumN n (fun i => f i + g i) = sumN n f + sumN n g := by
  induction n with
  | zero => rfl
  | succ n ih => rw [sumN, sumN, sumN, ih]; omega

theorem sumN_comm (n m : Nat) (f : Nat → Nat → Nat) : sumN n (fun i => sumN m (f i)) = sumN m (fun j => sumN n (fun i => f i j)) := by
  induction n with
  | zero => simp only [sumN]; rw [sumN_const, Nat.mul_zero]
  | succ n ih => simp only [sumN]; rw [ih, ← sumN_add]

theorem sumN_interval (n a k c : Nat) (h : a + k ≤ n) : sumN n (fun i => if a ≤ i ∧ i < a + k then c else 0) = k * c := by
  have gen : ∀ m, sumN m (fun i => if a ≤ i ∧ i < a + k then c else 0) = (min m (a + k) - a) * c := by
    intro m
    induction m with
    | zero => simp [sumN]
    | succ m ih =>
      rw [sumN, ih]
      split
      · rename_i hm
        rw [show min (m + 1) (a + k) - a = (min m (a + k) - a) + 1 from by omega, Nat.succ_mul]
      · rename_i hm
        rw [show min (m + 1) (a + k) - a = min m (a + k) - a from by omega, Nat.add_zero]
  rw [gen n, show min n (a + k) - a = k from by omega]

theorem sumN_pick (n v : Nat) (h : v < n) : sumN n (fun r => if v = r then 1 else 0) = 1 := by
  have := sumN_interval n v 1 1 (by omega)
  rw [Nat.one_mul] at this
  refine (sumN_congr ?_).trans this
  intro i _
  by_cases hv : v = i
  · rw [if_pos hv, if_pos (by omega)]
  · rw [if_neg hv, if_neg (by omega)]

/-! ### counting cells -/
def cntG (h wd : Nat) (P : Nat → Nat → Bool) : Nat := sumN h fun i => sumN wd fun j => if P i j = true then 1 else 0

theorem cntG_congr {h wd : Nat} {P Q : Nat → Nat → Bool} (he : ∀ i j, i < h → j < wd → P i j = Q i j) : cntG h wd P = cntG h wd Q :=
  sumN_congr fun i hi => sumN_congr fun j hj => by rw [he i j hi hj]

theorem cntG_le {h wd : Nat} {P Q : Nat → Nat → Bool} (hs : ∀ i j, i < h → j < wd → P i j = true → Q i j = true) : cntG h wd P ≤ cntG h wd Q :=
  sumN_le fun i hi => sumN_le fun j hj => by
    have := hs i j hi hj
    cases hp : P i j
    · simp
    · rw [if_pos rfl, if_pos (this hp)]; exact Nat.le_refl _

theorem cntG_eq {h wd : Nat} {P Q : Nat → Nat → Bool} (hs : ∀ i j, i < h → j < wd → P i j = true → Q i j = true) (he : cntG h wd P = cntG h wd Q) : ∀ i j, i < h → j < wd → P i j = Q i j := by
  have key : ∀ i j, i < h → j < wd → (if P i j = true then 1 else 0) ≤ (if Q i j = true then 1 else 0) := fun i j hi hj => by
    have := hs i j hi hj
    cases hp : P i j
    · simp
    · rw [if_pos rfl, if_pos (this hp)]; exact Nat.le_refl _
  intro i j hi hj
  have h1 := sumN_eq (n := h) (fun i hi => sumN_le fun j hj => key i j hi hj) he i hi
  have h2 := sumN_eq (n := wd) (fun j hj => key i j hi hj) h1 j hj
  cases hp : P i j <;> cases hq : Q i j <;> simp [hp, hq] at h2 ⊢

/-- a cell lies in a rectangle -/
def InR (row col hi wi i j : Nat) : Prop := row ≤ i ∧ i < row + hi ∧ col ≤ j ∧ j < col + wi
instance (row col hi wi i j : Nat) : Decidable (InR row col hi wi i j) := by unfold InR; infer_instance

theorem cntG_rect {h wd row col hi wi : Nat} (h1 : row + hi ≤ h) (h2 : col + wi ≤ wd) : cntG h wd (fun i j => decide (InR row col hi wi i j)) = hi * wi := by
  unfold cntG
  rw [← sumN_interval h row hi wi h1]
  apply sumN_congr
  intro i _
  by_cases hr : row ≤ i ∧ i < row + hi
  · rw [if_pos hr]
    have := sumN_interval wd col wi 1 h2
    rw [Nat.mul_one] at this
    refine (sumN_congr ?_).trans this
    intro j _
    by_cases hc : col ≤ j ∧ j < col + wi
    · rw [if_pos hc, if_pos (by rw [decide_eq_true_eq]; exact ⟨hr.1, hr.2, hc.1, hc.2⟩)]
    · rw [if_neg hc, if_neg]
      rw [decide_eq_true_eq]
      rintro ⟨_, _, a, b⟩
      exact hc ⟨a, b⟩
  · rw [if_neg hr]
    have h0 := sumN_const wd 0
    rw [Nat.mul_zero] at h0
    refine (sumN_congr ?_).trans h0
    intro j _
    rw [if_neg]
    rw [decide_eq_true_eq]
    rintro ⟨a, b, _, _⟩
    exact hr ⟨a, b⟩

theorem cntG_part {h wd R : Nat} {g : Nat → Nat → Nat} (hg : ∀ i j, i < h → j < wd → g i j < R) : sumN R (fun r => cntG h wd (fun i j => g i j == r)) = h * wd := by
  unfold cntG
  rw [sumN_comm]
  refine (sumN_congr ?_).trans (sumN_const h wd)
  intro i hi
  rw [sumN_comm]
  have := sumN_const wd 1
  rw [Nat.mul_one] at this
  refine (sumN_congr ?_).trans this
  intro j hj
  refine (sumN_congr ?_).trans (sumN_pick R (g i j) (hg i j hi hj))
  intro r _
  by_cases he : g i j = r
  · rw [if_pos he, if_pos (by simpa using he)]
  · rw [if_neg he, if_neg (by simpa using he)]

/-! ### plans -/

/-- the cells of a mark are a rectangle -/
def RectOf (h wd : Nat) (m : Nat → Nat → Nat) (v : Nat) : Prop :=
  ∃ row col hi wi, row + hi ≤ h ∧ col + wi ≤ wd ∧ ∀ i j, i < h → j < wd → (m i j = v ↔ InR row col hi wi i j)
/-- all marks' cells are rectangles -/
def RectG (h wd : Nat) (m : Nat → Nat → Nat) : Prop := ∀ i j, i < h → j < wd → RectOf h wd m (m i j)

/-- all numbers below a cell's come ahead of it -/
def CanonG (h wd : Nat) (g : Nat → Nat → Nat) : Prop :=
  ∀ i j, i < h → j < wd → ∀ r, r < g i j → ∃ i' j', i' < h ∧ j' < wd ∧ i' * wd + j' < i * wd + j ∧ g i' j' = r

/-- cells that are the same for one mark are so for the other -/
theorem RectG.of_same {h wd : Nat} {m m' : Nat → Nat → Nat} (hr : RectG h wd m) (hs : ∀ i j i' j', i < h → j < wd → i' < h → j' < wd → (m' i' j' = m' i j ↔ m i' j' = m i j)) : RectG h wd m' := fun i j hi hj => by
  obtain ⟨row, col, hh, wi, h1, h2, h3⟩ := hr i j hi hj
  exact ⟨row, col, hh, wi, h1, h2, fun i' j' hi' hj' => (hs i j i' j' hi hj hi' hj').trans (h3 i' j' hi' hj')⟩

theorem lex_lt {i j i' j' wd : Nat} (hj : j < wd) (hj' : j' < wd) : i' * wd + j' < i * wd + j ↔ i' < i ∨ i' = i ∧ j' < j := by
  constructor
  · intro h
    rcases Nat.lt_trichotomy i' i with h1 | h1 | h1
    · exact .inl h1
    · subst h1; exact .inr ⟨rfl, by omega⟩
    · exfalso
      have : i * wd + wd ≤ i' * wd := by rw [← Nat.succ_mul]; exact Nat.mul_le_mul_right _ h1
      omega
  · rintro (h | ⟨rfl, h⟩)
    · have : i' * wd + wd ≤ i * wd := by rw [← Nat.succ_mul]; exact Nat.mul_le_mul_right _ h
      omega
    · omega

theorem cell_of {t h wd : Nat} (h0 : t < h * wd) : t / wd < h ∧ t % wd < wd ∧ t / wd * wd + t % wd = t := by
  have hw : 0 < wd := by
    rcases Nat.eq_zero_or_pos wd with h1 | h1
    · subst h1; simp at h0
    · exact h1
  refine ⟨?_, Nat.mod_lt _ hw, ?_⟩
  · rw [Nat.div_lt_iff_lt_mul hw]; exact h0
  · rw [Nat.mul_comm]; exact Nat.div_add_mod t wd

theorem cell_lt {i j h wd : Nat} (hi : i < h) (hj : j < wd) : i * wd + j < h * wd := by
  have : i * wd + wd ≤ h * wd := by rw [← Nat.succ_mul]; exact Nat.mul_le_mul_right _ hi
  omega

end Go.Proofs.Ytpgcpmfemcfoaaa

/-
  Plain mathematics: a grid is filled by the boxes that the program tells just if the cells of each mark are a rectangle.
-/
namespace Go.Proofs.Ytpgcpmfemcfoaaa

theorem mkBx_fields {h wd : Nat} {g : Nat → Nat → Nat} {room row col : Nat} (hh : h ≤ 6) (hw : wd ≤ 6) (h1 : row < h) (h2 : col < wd) (hr : room ≤ 36) :
    (mkBx h wd g room row col).room = room ∧ (mkBx h wd g room row col).row = row ∧ (mkBx h wd g room row col).col = col ∧ (mkBx h wd g room row col).high = boxHigh h g row col ∧ (mkBx h wd g room row col).wide = boxWide wd g row col := by
  have a := boxHigh_le h g row col (by omega)
  have b := boxWide_le wd g row col (by omega)
  unfold mkBx
  rw [dif_pos ⟨by omega, by omega, hr⟩]
  exact ⟨rfl, rfl, rfl, rfl, rfl⟩

/-- what the scan has told after t cells -/
def ScanInv (h wd : Nat) (g : Nat → Nat → Nat) (t : Nat) (L : List Bx) : Prop :=
  (∀ i j, i < h → j < wd → i * wd + j < t → g i j < L.length) ∧
  (∀ r, r < L.length → ∃ i j, i < h ∧ j < wd ∧ i * wd + j < t ∧ g i j = r ∧ (∀ i' j', i' < h → j' < wd → i' * wd + j' < i * wd + j → g i' j' ≠ r) ∧ L[r]? = some (mkBx h wd g r i j))

theorem scan_inv {h wd : Nat} {g : Nat → Nat → Nat} (hc : CanonG h wd g) : ∀ t, t ≤ h * wd → ScanInv h wd g t (scanB h wd g t)
  | 0, _ => ⟨fun i j _ _ h0 => by omega, fun r hr => by simp [scanB] at hr⟩
  | t + 1, ht => by
    obtain ⟨ih1, ih2⟩ := scan_inv hc t (by omega)
    obtain ⟨c1, c2, c3⟩ := cell_of (t := t) (h := h) (wd := wd) (by omega)
    have hL : ∀ i j, i < h → j < wd → i * wd + j < t + 1 → i * wd + j < t ∨ i = t / wd ∧ j = t % wd := fun i j hi hj hlt => by
      rcases Nat.lt_or_ge (i * wd + j) t with h1 | h1
      · exact .inl h1
      · right
        have he : i * wd + j = t := by omega
        have := cell_div i j wd hj
        rw [he] at this
        exact ⟨this.1.symm, this.2.symm⟩
    rw [scanB]
    generalize hLs : scanB h wd g t = L at *
    split
    · rename_i hg
      refine ⟨fun i j hi hj hlt => ?_, fun r hr => ?_⟩
      · rw [List.length_append, List.length_singleton]
        rcases hL i j hi hj hlt with h1 | ⟨rfl, rfl⟩
        · have := ih1 i j hi hj h1; omega
        · omega
      · rw [List.length_append, List.length_singleton] at hr
        by_cases hrl : r < L.length
        · obtain ⟨i, j, a, b, c, d, e, f⟩ := ih2 r hrl
          exact ⟨i, j, a, b, by omega, d, e, by rw [List.getElem?_append_left hrl]; exact f⟩
        · have hre : r = L.length := by omega
          subst hre
          refine ⟨t / wd, t % wd, c1, c2, by omega, hg, fun i' j' hi' hj' hlt => ?_, ?_⟩
          · have := ih1 i' j' hi' hj' (by omega)
            omega
          · rw [List.getElem?_append_right (Nat.le_refl _), Nat.sub_self]; rfl
    · rename_i hg
      refine ⟨fun i j hi hj hlt => ?_, fun r hr => ?_⟩
      · rcases hL i j hi hj hlt with h1 | ⟨rfl, rfl⟩
        · exact ih1 i j hi hj h1
        · rcases Nat.lt_trichotomy (g (t / wd) (t % wd)) L.length with h1 | h1 | h1
          · exact h1
          · exact absurd h1 hg
          · obtain ⟨i', j', a, b, c, d⟩ := hc (t / wd) (t % wd) c1 c2 L.length h1
            have := ih1 i' j' a b (by omega)
            omega
      · obtain ⟨i, j, a, b, c, d, e, f⟩ := ih2 r hr
        exact ⟨i, j, a, b, by omega, d, e, f⟩

def areaAt (L : List Bx) (r : Nat) : Nat := match L[r]? with | some x => x.high * x.wide | none => 0
theorem sumB_sum (L : List Bx) : sumB L = sumN L.length (areaAt L) := by
  induction L using snoc_ind with
  | h0 => rfl
  | h1 L x ih =>
    rw [sumB_snoc, List.length_append, List.length_singleton, sumN, ih]
    congr 1
    · apply sumN_congr
      intro i hi
      unfold areaAt
      rw [List.getElem?_append_left hi]
    · unfold areaAt
      rw [List.getElem?_append_right (Nat.le_refl _), Nat.sub_self]; rfl

theorem aloneB_all {g : Nat → Nat → Nat} {room row col high wide : Nat} (h : aloneB g room row col high wide = true) {i j : Nat} (hi : i < high) (hj : j < wide) : g (row + i) (col + j) = room := by
  by_cases he : g (row + i) (col + j) = room
  · exact he
  · rw [aloneB_no hi hj he] at h; cases h

theorem box_of_rect {h wd : Nat} {g : Nat → Nat → Nat} {r i j row col hi wi : Nat} (hi1 : i < h) (hj1 : j < wd) (hg : g i j = r) (hfirst : ∀ i' j', i' < h → j' < wd → i' * wd + j' < i * wd + j → g i' j' ≠ r)
    (h1 : row + hi ≤ h) (h2 : col + wi ≤ wd) (h3 : ∀ i j, i < h → j < wd → (g i j = r ↔ InR row col hi wi i j)) : row = i ∧ col = j ∧ boxHigh h g i j = hi ∧ boxWide wd g i j = wi := by
  obtain ⟨a, b, c, d⟩ := (h3 i j hi1 hj1).1 hg
  have hrc : g row col = r := (h3 row col (by omega) (by omega)).2 ⟨Nat.le_refl _, by omega, Nat.le_refl _, by omega⟩
  have hnot : ¬ (row * wd + col < i * wd + j) := fun hlt => hfirst row col (by omega) (by omega) hlt hrc
  rw [lex_lt hj1 (by omega)] at hnot
  have hr : row = i := by omega
  subst hr
  have hcj : col = j := by omega
  subst hcj
  refine ⟨rfl, rfl, ?_, ?_⟩
  · unfold boxHigh
    refine runLen_eq _ _ _ (by omega) (fun t ht => ?_) (fun ht => ?_)
    · have := (h3 (row + t) col (by omega) hj1).2 ⟨by omega, by omega, by omega, by omega⟩
      simp [this, hg]
    · have : ¬ g (row + hi) col = r := fun he => by
        have := (h3 (row + hi) col (by omega) hj1).1 he
        exact absurd this.2.1 (by omega)
      simp [this, hg]
  · unfold boxWide
    refine runLen_eq _ _ _ (by omega) (fun t ht => ?_) (fun ht => ?_)
    · have := (h3 row (col + t) hi1 (by omega)).2 ⟨by omega, by omega, by omega, by omega⟩
      simp [this, hg]
    · have : ¬ g row (col + wi) = r := fun he => by
        have := (h3 row (col + wi) hi1 (by omega)).1 he
        exact absurd this.2.2.2 (by omega)
      simp [this, hg]

/-- **Boxes fill a grid just if the cells of each number are a rectangle.** -/
theorem filled_iff {h wd : Nat} {g : Nat → Nat → Nat} (hc : CanonG h wd g) (hh : h ≤ 6) (hw : wd ≤ 6) : filledB h wd g = true ↔ RectG h wd g := by
  obtain ⟨s1, s2⟩ := scan_inv hc (h * wd) (Nat.le_refl _)
  have hR36 : (scanB h wd g (h * wd)).length ≤ 36 := Nat.le_trans (scanB_len h wd g _) (Nat.mul_le_mul hh hw)
  unfold filledB
  rw [sumB_sum]
  generalize scanB h wd g (h * wd) = L at *
  have hpart := cntG_part (h := h) (wd := wd) (R := L.length) (g := g) (fun i j hi hj => s1 i j hi hj (cell_lt hi hj))
  rw [Bool.and_eq_true, beq_iff_eq, List.all_eq_true]
  constructor
  · rintro ⟨hal, hsum⟩
    have key : ∀ r, r < L.length → ∃ row col hi wi, row + hi ≤ h ∧ col + wi ≤ wd ∧ areaAt L r = hi * wi ∧ ∀ i j, i < h → j < wd → decide (InR row col hi wi i j) = true → (g i j == r) = true := by
      intro r hr
      obtain ⟨i, j, hi, hj, _, hg, _, hL⟩ := s2 r hr
      obtain ⟨e1, e2, e3, e4, e5⟩ := mkBx_fields (g := g) hh hw hi hj (show r ≤ 36 by omega)
      have hx := hal _ (List.mem_of_getElem? hL)
      unfold Bx.alone at hx
      rw [e1, e2, e3, e4, e5] at hx
      refine ⟨i, j, boxHigh h g i j, boxWide wd g i j, boxHigh_le h g i j (by omega), boxWide_le wd g i j (by omega), ?_, fun i' j' hi' hj' hin => ?_⟩
      · unfold areaAt; rw [hL]; show _ * _ = _; rw [e4, e5]
      · rw [decide_eq_true_eq] at hin
        obtain ⟨a, b, c, d⟩ := hin
        have := aloneB_all hx (i := i' - i) (j := j' - j) (by omega) (by omega)
        rw [show i + (i' - i) = i' from by omega, show j + (j' - j) = j' from by omega] at this
        simpa using this
    have hle : ∀ r, r < L.length → areaAt L r ≤ cntG h wd (fun i j => g i j == r) := fun r hr => by
      obtain ⟨row, col, hi, wi, h1, h2, h3, h4⟩ := key r hr
      rw [h3, ← cntG_rect h1 h2]
      exact cntG_le h4
    have heq := sumN_eq hle (hsum.trans hpart.symm)
    intro i j hi hj
    have hr := s1 i j hi hj (cell_lt hi hj)
    obtain ⟨row, col, hi', wi, h1, h2, h3, h4⟩ := key (g i j) hr
    refine ⟨row, col, hi', wi, h1, h2, fun i' j' hi'' hj'' => ?_⟩
    have := cntG_eq h4 (by rw [cntG_rect h1 h2, ← h3]; exact heq _ hr) i' j' hi'' hj''
    constructor
    · intro hg
      rw [hg, beq_self_eq_true, decide_eq_true_eq] at this
      exact this
    · intro hin
      rw [decide_eq_true hin] at this
      simpa using this.symm
  · intro hrect
    have key : ∀ r, r < L.length → (∀ x, L[r]? = some x → Bx.alone g x = true) ∧ areaAt L r = cntG h wd (fun i j => g i j == r) := by
      intro r hr
      obtain ⟨i, j, hi, hj, _, hg, hf, hL⟩ := s2 r hr
      obtain ⟨e1, e2, e3, e4, e5⟩ := mkBx_fields (g := g) hh hw hi hj (show r ≤ 36 by omega)
      obtain ⟨row, col, hi', wi, h1, h2, h3⟩ := hrect i j hi hj
      rw [hg] at h3
      obtain ⟨rfl, rfl, b1, b2⟩ := box_of_rect hi hj hg hf h1 h2 h3
      refine ⟨fun x hx => ?_, ?_⟩
      · rw [hL] at hx
        cases hx
        unfold Bx.alone
        rw [e1, e2, e3, e4, e5, b1, b2]
        refine aloneB_yes fun a ha b hb => ?_
        exact (h3 (row + a) (col + b) (by omega) (by omega)).2 ⟨by omega, by omega, by omega, by omega⟩
      · unfold areaAt
        rw [hL]
        show _ * _ = _
        rw [e4, e5, b1, b2, ← cntG_rect h1 h2]
        refine cntG_congr fun a b ha hb => ?_
        have := h3 a b ha hb
        by_cases hin : InR row col hi' wi a b
        · rw [decide_eq_true hin, this.2 hin, beq_self_eq_true]
        · rw [decide_eq_false hin]
          symm
          rw [beq_eq_false_iff_ne]
          exact fun he => hin (this.1 he)
    refine ⟨fun x hx => ?_, ?_⟩
    · obtain ⟨r, hr, rfl⟩ := List.getElem_of_mem hx
      exact (key r hr).1 _ (List.getElem?_eq_getElem hr)
    · rw [← hpart]
      exact sumN_congr fun r hr => (key r hr).2

/-! ### grids whose numbers are given in the order of first cells -/

theorem markL_mem {wd : Nat} {m : Nat → Nat → Nat} {t v : Nat} (h : v ∈ markL wd m t) : ∃ k, k < t ∧ m (k / wd) (k % wd) = v := by
  unfold markL at h
  rw [List.mem_map] at h
  obtain ⟨k, hk, rfl⟩ := h
  exact ⟨k, List.mem_range.1 hk, rfl⟩

theorem markF_mem {h wd : Nat} {m : Nat → Nat → Nat} {i j : Nat} (hi : i < h) (hj : j < wd) : m i j ∈ markF h wd m := by
  unfold markF
  rw [mem_firsts]
  unfold markL
  rw [List.mem_map]
  obtain ⟨e1, e2⟩ := cell_div i j wd hj
  exact ⟨i * wd + j, List.mem_range.2 (cell_lt hi hj), by rw [e1, e2]⟩

theorem renG_in {h wd : Nat} {m : Nat → Nat → Nat} {i j : Nat} (hi : i < h) (hj : j < wd) : renG h wd m i j = (markF h wd m).idxOf (m i j) := by
  unfold renG roomG
  rw [if_pos ⟨hi, hj, cell_lt hi hj⟩]

theorem renG_same {h wd : Nat} {m : Nat → Nat → Nat} {i j i' j' : Nat} (hi : i < h) (hj : j < wd) (hi' : i' < h) (hj' : j' < wd) : renG h wd m i' j' = renG h wd m i j ↔ m i' j' = m i j := by
  rw [renG_in hi hj, renG_in hi' hj']
  constructor
  · intro he
    have h1 : (markF h wd m)[(markF h wd m).idxOf (m i' j')]'(List.idxOf_lt_length_of_mem (markF_mem hi' hj')) = m i' j' := List.getElem_idxOf _
    have h2 : (markF h wd m)[(markF h wd m).idxOf (m i j)]'(List.idxOf_lt_length_of_mem (markF_mem hi hj)) = m i j := List.getElem_idxOf _
    rw [← h1, ← h2]
    congr 1
  · intro he; rw [he]

theorem canon_ren (h wd : Nat) (m : Nat → Nat → Nat) : CanonG h wd (renG h wd m) := by
  intro i j hi hj r hr
  rw [renG_in hi hj, markF_idx h wd m i j hi hj] at hr
  have hlen : r < (firsts (markL wd m (i * wd + j))).length := Nat.lt_of_lt_of_le hr List.idxOf_le_length
  have hmem : (firsts (markL wd m (i * wd + j)))[r] ∈ markL wd m (i * wd + j) := (mem_firsts _ _).1 (List.getElem_mem hlen)
  obtain ⟨k, hk, hkv⟩ := markL_mem hmem
  have hkh : k < h * wd := Nat.lt_trans hk (cell_lt hi hj)
  obtain ⟨c1, c2, c3⟩ := cell_of hkh
  refine ⟨k / wd, k % wd, c1, c2, by omega, ?_⟩
  rw [renG_in c1 c2, hkv]
  obtain ⟨R, hR⟩ := markL_prefix wd m (i * wd + j) (h * wd - (i * wd + j))
  have hp : firsts (markL wd m (i * wd + j)) <+: markF h wd m := by
    unfold markF
    rw [show h * wd = i * wd + j + (h * wd - (i * wd + j)) from by have := cell_lt hi hj; omega, hR]
    exact firsts_prefix _ _
  rw [idxOf_prefix hp (List.getElem_mem hlen)]
  exact (firsts_nodup _).idxOf_getElem r hlen

theorem filled_ren {h wd : Nat} {m : Nat → Nat → Nat} (hh : h ≤ 6) (hw : wd ≤ 6) : filledB h wd (renG h wd m) = true ↔ RectG h wd m := by
  rw [filled_iff (canon_ren h wd m) hh hw]
  exact ⟨fun hr => hr.of_same fun i j i' j' a b c d => (renG_same a b c d).symm, fun hr => hr.of_same fun i j i' j' a b c d => renG_same a b c d⟩

end Go.Proofs.Ytpgcpmfemcfoaaa
