
/-
  Plain mathematics: sums over cells, rectangles of cells. No program is named here.
-/
import Derived.Test.YtfemfmkgdgcemaaPlanM
namespace Go.Proofs.Ytfemfmkgdgcemaa

/-! ### sums -/
def sumN : Nat → (Nat → Nat) → Nat
  | 0, _ => 0
  | n + 1, f => sumN n f + f n

theorem sumN_congr {n : Nat} {f g : Nat → Nat} (h : ∀ i, i < n → f i = g i) : sumN n f = sumN n g := by
  induction n with
  | zero => rfl
  | succ n ih => rw [sumN, sumN, ih (fun i hi => h i (by omega)), h n (by omega)]

theorem sumN_le {n : Nat} {f g : Nat → Nat} (h : ∀ i, i < n → f i ≤ g i) : sumN n f ≤ sumN n g := by
  induction n with
  | zero => exact Nat.le_refl _
  | succ n ih => rw [sumN, sumN]; have := ih (fun i hi => h i (by omega)); have := h n (by omega); omega

theorem sumN_eq {n : Nat} {f g : Nat → Nat} (h : ∀ i, i < n → f i ≤ g i) (he : sumN n f = sumN n g) : ∀ i, i < n → f i = g i := by
  induction n with
  | zero => intro i hi; omega
  | succ n ih =>
    rw [sumN, sumN] at he
    have h1 := sumN_le (n := n) (fun i hi => h i (by omega))
    have h2 := h n (by omega)
    intro i hi
    by_cases hn : i = n
    · subst hn; omega
    · exact ih (fun i hi => h i (by omega)) (by omega) i (by omega)

theorem sumN_const (n c : Nat) : sumN n (fun _ => c) = n * c := by
  induction n with
  | zero => simp [sumN]
  | succ n ih => rw [sumN, ih, Nat.succ_mul]

theorem sumN_add (n : Nat) (f g : Nat → Nat) : sumN n (fun i => f i + g i) = sumN n f + sumN n g := by
  induction n with
  | zero => rfl
  | succ n ih => rw [sumN, sumN, sumN, ih]; omega

theorem sumN_comm (n m : Nat) (f : Nat → Nat → Nat) : sumN n (fun i => sumN m (f i)) = sumN m (fun j => sumN n (fun i => f i j)) := by
  induction n with
  | zero => simp only [sumN]; rw [sumN_const, Nat.mul_zero]
  | succ n ih => simp only [sumN]; rw [ih, ← sumN_add]

theorem sumN_interval (n a k c : Nat) (h : a + k ≤ n) : sumN n (fun i => if a ≤ i ∧ i < a + k then c else 0) = k * c := by
  have gen : ∀ m, sumN m (fun i => if a ≤ i ∧ i < a + k then c else 0) = (min m (a + k) - a) * c := by
    intro m
    induction m with
    | zero => simp [sumN]
    | succ m ih =>
      rw [sumN, ih]
      split
      · rename_i hm
        rw [show min (m + 1) (a + k) - a = (min m (a + k) - a) + 1 from by omega, Nat.succ_mul]
      · rename_i hm
        rw [show min (m + 1) (a + k) - a = min m (a + k) - a from by omega, Nat.add_zero]
  rw [gen n, show min n (a + k) - a = k from by omega]

theorem sumN_pick (n v : Nat) (h : v < n) : sumN n (fun r => if v = r then 1 else 0) = 1 := by
  have := sumN_interval n v 1 1 (by omega)
  rw [Nat.one_mul] at this
  refine (sumN_congr ?_).trans this
  intro i _
  by_cases hv : v = i
  · rw [if_pos hv, if_pos (by omega)]
  · rw [if_neg hv, if_neg (by omega)]

/-! ### counting cells -/
def cntG (h wd : Nat) (P : Nat → Nat → Bool) : Nat := sumN h fun i => sumN wd fun j => if P i j = true then 1 else 0

theorem cntG_congr {h wd : Nat} {P Q : Nat → Nat → Bool} (he : ∀ i j, i < h → j < wd → P i j = Q i j) : cntG h wd P = cntG h wd Q :=
  sumN_congr fun i hi => sumN_congr fun j hj => by rw [he i j hi hj]

theorem cntG_le {h wd : Nat} {P Q : Nat → Nat → Bool} (hs : ∀ i j, i < h → j < wd → P i j = true → Q i j = true) : cntG h wd P ≤ cntG h wd Q :=
  sumN_le fun i hi => sumN_le fun j hj => by
    have := hs i j hi hj
    cases hp : P i j
    · simp
    · rw [if_pos rfl, if_pos (this hp)]; exact Nat.le_refl _

theorem cntG_eq {h wd : Nat} {P Q : Nat → Nat → Bool} (hs : ∀ i j, i < h → j < wd → P i j = true → Q i j = true) (he : cntG h wd P = cntG h wd Q) : ∀ i j, i < h → j < wd → P i j = Q i j := by
  have key : ∀ i j, i < h → j < wd → (if P i j = true then 1 else 0) ≤ (if Q i j = true then 1 else 0) := fun i j hi hj => by
    have := hs i j hi hj
    cases hp : P i j
    · simp
    · rw [if_pos rfl, if_pos (this hp)]; exact Nat.le_refl _
  intro i j hi hj
  have h1 := sumN_eq (n := h) (fun i hi => sumN_le fun j hj => key i j hi hj) he i hi
  have h2 := sumN_eq (n := wd) (fun j hj => key i j hi hj) h1 j hj
  cases hp : P i j <;> cases hq : Q i j <;> simp [hp, hq] at h2 ⊢

/-- a cell lies in a rectangle -/
def InR (row col hi wi i j : Nat) : Prop := row ≤ i ∧ i < row + hi ∧ col ≤ j ∧ j < col + wi
instance (row col hi wi i j : Nat) : Decidable (InR row col hi wi i j) := by unfold InR; infer_instance

theorem cntG_rect {h wd row col hi wi : Nat} (h1 : row + hi ≤ h) (h2 : col + wi ≤ wd) : cntG h wd (fun i j => decide (InR row col hi wi i j)) = hi * wi := by
  unfold cntG
  rw [← sumN_interval h row hi wi h1]
  apply sumN_congr
  intro i _
  by_cases hr : row ≤ i ∧ i < row + hi
  · rw [if_pos hr]
    have := sumN_interval wd col wi 1 h2
    rw [Nat.mul_one] at this
    refine (sumN_congr ?_).trans this
    intro j _
    by_cases hc : col ≤ j ∧ j < col + wi
    · rw [if_pos hc, if_pos (by rw [decide_eq_true_eq]; exact ⟨hr.1, hr.2, hc.1, hc.2⟩)]
    · rw [if_neg hc, if_neg]
      rw [decide_eq_true_eq]
      rintro ⟨_, _, a, b⟩
      exact hc ⟨a, b⟩
  · rw [if_neg hr]
    have h0 := sumN_const wd 0
    rw [Nat.mul_zero] at h0
    refine (sumN_congr ?_).trans h0
    intro j _
    rw [if_neg]
    rw [decide_eq_true_eq]
    rintro ⟨a, b, _, _⟩
    exact hr ⟨a, b⟩

theorem cntG_part {h wd R : Nat} {g : Nat → Nat → Nat} (hg : ∀ i j, i < h → j < wd → g i j < R) : sumN R (fun r => cntG h wd (fun i j => g i j == r)) = h * wd := by
  unfold cntG
  rw [sumN_comm]
  refine (sumN_congr ?_).trans (sumN_const h wd)
  intro i hi
  rw [sumN_comm]
  have := sumN_const wd 1
  rw [Nat.mul_one] at this
  refine (sumN_congr ?_).trans this
  intro j hj
  refine (sumN_congr ?_).trans (sumN_pick R (g i j) (hg i j hi hj))
  intro r _
  by_cases he : g i j = r
  · rw [if_pos he, if_pos (by simpa using he)]
  · rw [if_neg he, if_neg (by simpa using he)]

/-! ### plans -/

/-- the cells of a mark are a rectangle -/
def RectOf (h wd : Nat) (m : Nat → Nat → Nat) (v : Nat) : Prop :=
  ∃ row col hi wi, row + hi ≤ h ∧ col + wi ≤ wd ∧ ∀ i j, i < h → j < wd → (m i j = v ↔ InR row col hi wi i j)
/-- all marks' cells are rectangles -/
def RectG (h wd : Nat) (m : Nat → Nat → Nat) : Prop := ∀ i j, i < h → j < wd → RectOf h wd m (m i j)

/-- all numbers below a cell's come ahead of it -/
def CanonG (h wd : Nat) (g : Nat → Nat → Nat) : Prop :=
  ∀ i j, i < h → j < wd → ∀ r, r < g i j → ∃ i' j', i' < h ∧ j' < wd ∧ i' * wd + j' < i * wd + j ∧ g i' j' = r

/-- cells that are the same for one mark are so for the other -/
theorem RectG.of_same {h wd : Nat} {m m' : Nat → Nat → Nat} (hr : RectG h wd m) (hs : ∀ i j i' j', i < h → j < wd → i' < h → j' < wd → (m' i' j' = m' i j ↔ m i' j' = m i j)) : RectG h wd m' := fun i j hi hj => by
  obtain ⟨row, col, hh, wi, h1, h2, h3⟩ := hr i j hi hj
  exact ⟨row, col, hh, wi, h1, h2, fun i' j' hi' hj' => (hs i j i' j' hi hj hi' hj').trans (h3 i' j' hi' hj')⟩

theorem RectOf.congr {h wd : Nat} {m m' : Nat → Nat → Nat} {v : Nat} (hr : RectOf h wd m v) (hs : ∀ i j, i < h → j < wd → m' i j = m i j) : RectOf h wd m' v := by
  obtain ⟨row, col, hh, wi, h1, h2, h3⟩ := hr
  exact ⟨row, col, hh, wi, h1, h2, fun i' j' hi' hj' => by rw [hs i' j' hi' hj']; exact h3 i' j' hi' hj'⟩

theorem lex_lt {i j i' j' wd : Nat} (hj : j < wd) (hj' : j' < wd) : i' * wd + j' < i * wd + j ↔ i' < i ∨ i' = i ∧ j' < j := by
  constructor
  · intro h
    rcases Nat.lt_trichotomy i' i with h1 | h1 | h1
    · exact .inl h1
    · subst h1; exact .inr ⟨rfl, by omega⟩
    · exfalso
      have : i * wd + wd ≤ i' * wd := by rw [← Nat.succ_mul]; exact Nat.mul_le_mul_right _ h1
      omega
  · rintro (h | ⟨rfl, h⟩)
    · have : i' * wd + wd ≤ i * wd := by rw [← Nat.succ_mul]; exact Nat.mul_le_mul_right _ h
      omega
    · omega

theorem cell_of {t h wd : Nat} (h0 : t < h * wd) : t / wd < h ∧ t % wd < wd ∧ t / wd * wd + t % wd = t := by
  have hw : 0 < wd := by
    rcases Nat.eq_zero_or_pos wd with h1 | h1
    · subst h1; simp at h0
    · exact h1
  refine ⟨?_, Nat.mod_lt _ hw, ?_⟩
  · rw [Nat.div_lt_iff_lt_mul hw]; exact h0
  · rw [Nat.mul_comm]; exact Nat.div_add_mod t wd

theorem cell_lt {i j h wd : Nat} (hi : i < h) (hj : j < wd) : i * wd + j < h * wd := by
  have : i * wd + wd ≤ h * wd := by rw [← Nat.succ_mul]; exact Nat.mul_le_mul_right _ hi
  omega

end Go.Proofs.Ytfemfmkgdgcemaa
