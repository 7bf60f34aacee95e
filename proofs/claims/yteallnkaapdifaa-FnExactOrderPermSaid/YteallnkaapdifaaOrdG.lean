
/-
  Rooms left of rooms and above them, on a grid: each two rooms of a plain one are in just one order. (Plain mathematics.)
-/
import Derived.Test.YteallnkaapdifaaWalls
import Derived.Test.YteallnkaapdifaaMathA
namespace Go.Proofs.Yteallnkaapdifaa

/-- just left: a line between two columns that parts rooms throughout has one room on its left and the other one on its right -/
def JL (h wd : Nat) (g : Nat → Nat → Nat) (a b : Nat) : Prop :=
  ∃ k s t, 1 ≤ k ∧ k < wd ∧ s < h ∧ t < h ∧ (∀ i, (s ≤ i ∧ i ≤ t) ∨ (t ≤ i ∧ i ≤ s) → g i (k - 1) ≠ g i k) ∧ g s (k - 1) = a ∧ g t k = b
/-- just above, likewise -/
def JA (h wd : Nat) (g : Nat → Nat → Nat) (a b : Nat) : Prop :=
  ∃ k s t, 1 ≤ k ∧ k < h ∧ s < wd ∧ t < wd ∧ (∀ j, (s ≤ j ∧ j ≤ t) ∨ (t ≤ j ∧ j ≤ s) → g (k - 1) j ≠ g k j) ∧ g (k - 1) s = a ∧ g k t = b
/-- left, above -/
def LL (h wd : Nat) (g : Nat → Nat → Nat) : Nat → Nat → Prop := Relation.TransGen (JL h wd g)
def AA (h wd : Nat) (g : Nat → Nat → Nat) : Nat → Nat → Prop := Relation.TransGen (JA h wd g)
/-- no cross -/
def NoX (h wd : Nat) (g : Nat → Nat → Nat) : Prop := ∀ i k, 1 ≤ i → i < h → 1 ≤ k → k < wd → ¬ (g (i - 1) (k - 1) ≠ g (i - 1) k ∧ g i (k - 1) ≠ g i k ∧ g (i - 1) (k - 1) ≠ g i (k - 1) ∧ g (i - 1) k ≠ g i k)

/-- the cells of a room lie all between any two of them -/
theorem rect_in {h wd : Nat} {g : Nat → Nat → Nat} (hr : RectG h wd g) {i j i' j' z : Nat} (hi : i < h) (hj : j < wd) (hi' : i' < h) (hj' : j' < wd) (e : g i j = z) (e' : g i' j' = z)
    {x y : Nat} (hx : i ≤ x ∧ x ≤ i' ∨ i' ≤ x ∧ x ≤ i) (hy : j ≤ y ∧ y ≤ j' ∨ j' ≤ y ∧ y ≤ j) : g x y = z := by
  subst e
  obtain ⟨r, c, a, b, _, _, hin⟩ := hr i j hi hj
  have h1 := (hin i j hi hj).1 rfl
  have h2 := (hin i' j' hi' hj').1 e'
  unfold InR at h1 h2
  exact (hin x y (by omega) (by omega)).2 (by unfold InR; omega)

theorem rect_two {h wd : Nat} {g : Nat → Nat → Nat} (hr : RectG h wd g) {i j i' j' : Nat} (hi : i < h) (hj : j < wd) (hi' : i' < h) (hj' : j' < wd) (he : g i' j' = g i j) : g i j' = g i j ∧ g i' j = g i j :=
  ⟨rect_in hr hi hj hi' hj' rfl he (by omega) (by omega), rect_in hr hi hj hi' hj' rfl he (by omega) (by omega)⟩

/-- rooms of a column, rooms of a row -/
theorem col_chain {h wd : Nat} {g : Nat → Nat → Nat} {j i : Nat} (hj : j < wd) : ∀ n, i + n < h → g i j = g (i + n) j ∨ AA h wd g (g i j) (g (i + n) j)
  | 0, _ => .inl rfl
  | n + 1, hn => by
    have ih := col_chain (h := h) (g := g) (i := i) hj n (by omega)
    by_cases he : g (i + n) j = g (i + (n + 1)) j
    · rw [← he]; exact ih
    · have hs : JA h wd g (g (i + n) j) (g (i + (n + 1)) j) := ⟨i + (n + 1), j, j, by omega, hn, hj, hj, fun y hy => by
        obtain rfl : y = j := by omega
        exact he, rfl, rfl⟩
      rcases ih with e | e
      · rw [e]; exact .inr (.single hs)
      · exact .inr (.tail e hs)
theorem row_chain {h wd : Nat} {g : Nat → Nat → Nat} {i j : Nat} (hi : i < h) : ∀ n, j + n < wd → g i j = g i (j + n) ∨ LL h wd g (g i j) (g i (j + n))
  | 0, _ => .inl rfl
  | n + 1, hn => by
    have ih := row_chain (wd := wd) (g := g) (j := j) hi n (by omega)
    by_cases he : g i (j + n) = g i (j + (n + 1))
    · rw [← he]; exact ih
    · have hs : JL h wd g (g i (j + n)) (g i (j + (n + 1))) := ⟨j + (n + 1), i, i, by omega, hn, hi, hi, fun y hy => by
        obtain rfl : y = i := by omega
        exact he, rfl, rfl⟩
      rcases ih with e | e
      · rw [e]; exact .inr (.single hs)
      · exact .inr (.tail e hs)
theorem col_le {h wd : Nat} {g : Nat → Nat → Nat} {j i i' : Nat} (hj : j < wd) (hi : i ≤ i') (h2 : i' < h) : g i j = g i' j ∨ AA h wd g (g i j) (g i' j) := by
  have := col_chain (h := h) (g := g) (i := i) hj (i' - i) (by omega)
  rwa [show i + (i' - i) = i' by omega] at this
theorem row_le {h wd : Nat} {g : Nat → Nat → Nat} {i j j' : Nat} (hi : i < h) (hj : j ≤ j') (h2 : j' < wd) : g i j = g i j' ∨ LL h wd g (g i j) (g i j') := by
  have := row_chain (wd := wd) (g := g) (j := j) hi (j' - j) (by omega)
  rwa [show j + (j' - j) = j' by omega] at this

/-- the way down from a room's lower right corner: along level lines as far as they go, then down along upright ones -/
def stair (h : Nat) (g : Nat → Nat → Nat) (r c : Nat) : Nat → Nat
  | 0 => r
  | t + 1 => if h ≤ stair h g r c t then stair h g r c t else if g (stair h g r c t - 1) (c + t) ≠ g (stair h g r c t) (c + t) then stair h g r c t
    else stair h g r c t + runFrom (upF h g (c + t)) h (stair h g r c t)
/-- how far down it is at a column -/
def stH (h : Nat) (g : Nat → Nat → Nat) (r c j : Nat) : Nat := stair h g r c (j + 1 - c)

theorem stH_low {h : Nat} {g : Nat → Nat → Nat} {r c j : Nat} (hj : j < c) : stH h g r c j = r := by
  unfold stH; rw [show j + 1 - c = 0 by omega]; rfl
/-- one step of it -/
theorem stH_step {h : Nat} {g : Nat → Nat → Nat} {r c j : Nat} (hj : c ≤ j + 1) (hle : stH h g r c j ≤ h) :
    (stH h g r c (j + 1) = stH h g r c j ∧ (stH h g r c j = h ∨ stH h g r c j < h ∧ g (stH h g r c j - 1) (j + 1) ≠ g (stH h g r c j) (j + 1))) ∨
    (stH h g r c j < h ∧ g (stH h g r c j - 1) (j + 1) = g (stH h g r c j) (j + 1) ∧ stH h g r c j ≤ stH h g r c (j + 1) ∧ stH h g r c (j + 1) ≤ h ∧
      (∀ i, stH h g r c j ≤ i → i < stH h g r c (j + 1) → g i j ≠ g i (j + 1)) ∧ (stH h g r c (j + 1) < h → g (stH h g r c (j + 1)) j = g (stH h g r c (j + 1)) (j + 1))) := by
  have e1 : stH h g r c (j + 1) = stair h g r c ((j + 1 - c) + 1) := by unfold stH; rw [show j + 1 + 1 - c = (j + 1 - c) + 1 by omega]
  have e2 : stair h g r c (j + 1 - c) = stH h g r c j := rfl
  rw [e1, stair, e2, show c + (j + 1 - c) = j + 1 by omega]
  generalize stH h g r c j = e at hle ⊢
  by_cases h1 : h ≤ e
  · rw [if_pos h1]; exact .inl ⟨rfl, .inl (by omega)⟩
  · rw [if_neg h1]
    by_cases h2 : g (e - 1) (j + 1) ≠ g e (j + 1)
    · rw [if_pos h2]; exact .inl ⟨rfl, .inr ⟨by omega, h2⟩⟩
    · rw [if_neg h2]
      have hl := runFrom_le (upF h g (j + 1)) h e
      refine .inr ⟨by omega, Classical.not_not.1 h2, by omega, by omega, fun i i1 i2 => ?_, fun hs => ?_⟩
      · have := runFrom_all i1 i2
        unfold upF at this
        simp only [Bool.and_eq_true, decide_eq_true_eq, Nat.add_sub_cancel] at this
        exact this.2
      · have := runFrom_stop (f := upF h g (j + 1)) (by omega) hs
        unfold upF at this
        simp only [Bool.and_eq_false_iff, decide_eq_false_iff_not, Nat.add_sub_cancel] at this
        rcases this with h' | h'
        · exact absurd hs h'
        · exact Classical.not_not.1 h'

/-- what is known of a room and its lower right corner -/
structure Corner (h wd : Nat) (g : Nat → Nat → Nat) (a r c : Nat) : Prop where
  rect : RectG h wd g
  r1 : 1 ≤ r
  rh : r ≤ h
  c1 : 1 ≤ c
  cw : c ≤ wd
  at_ : g (r - 1) (c - 1) = a
  low : r < h → g r (c - 1) ≠ a
  end_ : c < wd → g (r - 1) c ≠ a

section
variable {h wd : Nat} {g : Nat → Nat → Nat} {a r c : Nat}

/-- below the way, rooms part -/
theorem Corner.inv (C : Corner h wd g a r c) : ∀ j, c ≤ j + 1 → j < wd → r ≤ stH h g r c j ∧ stH h g r c j ≤ h ∧ (stH h g r c j < h → g (stH h g r c j - 1) j ≠ g (stH h g r c j) j) := by
  have base : r ≤ stH h g r c (c - 1) ∧ stH h g r c (c - 1) ≤ h ∧ (stH h g r c (c - 1) < h → g (stH h g r c (c - 1) - 1) (c - 1) ≠ g (stH h g r c (c - 1)) (c - 1)) := by
    have := C.c1
    rw [stH_low (by omega)]
    exact ⟨Nat.le_refl _, C.rh, fun hl => by rw [C.at_]; exact fun e => C.low hl e.symm⟩
  intro j
  induction j with
  | zero =>
    intro h1 h2
    have := C.c1
    rwa [show c - 1 = 0 by omega] at base
  | succ j ih =>
    intro h1 h2
    by_cases hc : c ≤ j + 1
    · obtain ⟨i1, i2, i3⟩ := ih hc (by omega)
      rcases stH_step (g := g) hc i2 with ⟨e, hs⟩ | ⟨s1, s2, s3, s4, s5, s6⟩
      · rw [e]
        refine ⟨i1, i2, fun hl => ?_⟩
        rcases hs with hs | hs
        · omega
        · exact hs.2
      · refine ⟨by omega, s4, fun hl => ?_⟩
        have e6 := s6 hl
        generalize stH h g r c (j + 1) = E at *
        generalize stH h g r c j = e at *
        have r1 := C.r1
        have hup : g (E - 1) j ≠ g (E - 1) (j + 1) := by
          by_cases he : e < E
          · exact s5 (E - 1) (by omega) (by omega)
          · obtain rfl : E = e := by omega
            intro heq
            exact i3 s1 (by rw [heq, s2, e6])
        intro heq
        have := rect_two C.rect (i := E - 1) (j := j + 1) (i' := E) (j' := j) (by omega) h2 hl (by omega) (by rw [e6, heq])
        exact hup this.1
    · obtain rfl : c = j + 1 + 1 := by omega
      simpa using base
theorem Corner.mono (C : Corner h wd g a r c) {j : Nat} : ∀ n, j + n < wd → stH h g r c j ≤ stH h g r c (j + n)
  | 0, _ => Nat.le_refl _
  | n + 1, hn => by
    have ih := C.mono (j := j) n (by omega)
    refine Nat.le_trans ih ?_
    by_cases hc : c ≤ j + n + 1
    · obtain ⟨i1, i2, i3⟩ := C.inv (j + n) hc (by omega)
      rcases stH_step (g := g) hc i2 with ⟨e, _⟩ | ⟨_, _, s3, _⟩
      · exact Nat.le_of_eq e.symm
      · exact s3
    · rw [stH_low (by omega), show j + (n + 1) = (j + n) + 1 by omega, stH_low (by omega)]; exact Nat.le_refl _
theorem Corner.le (C : Corner h wd g a r c) {j k : Nat} (hj : j ≤ k) (hk : k < wd) : stH h g r c j ≤ stH h g r c k := by
  have := C.mono (j := j) (k - j) (by omega)
  rwa [show j + (k - j) = k by omega] at this
/-- a row that the way goes down by: where it does -/
theorem Corner.cross (C : Corner h wd g a r c) {j q : Nat} : ∀ n, j + n < wd → stH h g r c j ≤ q → q < stH h g r c (j + n) → ∃ x, j ≤ x ∧ x < j + n ∧ stH h g r c x ≤ q ∧ q < stH h g r c (x + 1)
  | 0, _, h1, h2 => by rw [Nat.add_zero] at h2; omega
  | n + 1, hn, h1, h2 => by
    by_cases hq : q < stH h g r c (j + n)
    · obtain ⟨x, x1, x2, x3⟩ := C.cross n (by omega) h1 hq
      exact ⟨x, x1, by omega, x3⟩
    · exact ⟨j + n, by omega, by omega, by omega, h2⟩
theorem Corner.crossing (C : Corner h wd g a r c) {j k q : Nat} (hk : k < wd) (h1 : stH h g r c j ≤ q) (h2 : q < stH h g r c k) (hjk : j ≤ k) : ∃ x, j ≤ x ∧ x < k ∧ c ≤ x + 1 ∧ stH h g r c x ≤ q ∧ q < stH h g r c (x + 1) := by
  obtain ⟨x, x1, x2, x3, x4⟩ := C.cross (j := j) (k - j) (by omega) h1 (by rwa [show j + (k - j) = k by omega])
  refine ⟨x, x1, by omega, ?_, x3, x4⟩
  rcases Nat.lt_or_ge (x + 1) c with hc | hc
  · rw [stH_low (by omega)] at x3 x4; omega
  · exact hc
/-- at a row at which the way goes down, rooms part -/
theorem Corner.down (C : Corner h wd g a r c) {x : Nat} (hc : c ≤ x + 1) (hx : x + 1 < wd) (hlt : stH h g r c x < stH h g r c (x + 1)) :
    (∀ i, stH h g r c x - 1 ≤ i → i < stH h g r c (x + 1) → g i x ≠ g i (x + 1)) ∧ stH h g r c x < h ∧ stH h g r c (x + 1) ≤ h ∧ g (stH h g r c x - 1) (x + 1) = g (stH h g r c x) (x + 1) ∧
    (stH h g r c (x + 1) < h → g (stH h g r c (x + 1)) x = g (stH h g r c (x + 1)) (x + 1)) := by
  obtain ⟨i1, i2, i3⟩ := C.inv x hc (by omega)
  rcases stH_step (g := g) hc i2 with ⟨e, _⟩ | ⟨s1, s2, s3, s4, s5, s6⟩
  · omega
  · refine ⟨fun i a1 a2 => ?_, s1, s4, s2, s6⟩
    by_cases hi : stH h g r c x ≤ i
    · exact s5 i hi a2
    · have r1 := C.r1
      obtain rfl : i = stH h g r c x - 1 := by omega
      intro heq
      have h3 := i3 s1
      have := rect_two C.rect (i := stH h g r c x - 1) (j := x) (i' := stH h g r c x) (j' := x + 1) (by omega) (by omega) s1 hx (by rw [heq, s2])
      exact h3 this.2.symm

/-- above the way, and below it -/
def AbW (h wd : Nat) (g : Nat → Nat → Nat) (r c z : Nat) : Prop := ∀ i j, i < h → j < wd → g i j = z → c ≤ j ∧ i < stH h g r c j
def BeW (h wd : Nat) (g : Nat → Nat → Nat) (r c z : Nat) : Prop := ∀ i j, i < h → j < wd → g i j = z → stH h g r c j ≤ i

/-- along a row of a room, the way stays on one side -/
theorem Corner.row (C : Corner h wd g a r c) {i j : Nat} (hi : i < h) : ∀ n, j + n < wd → (∀ y, j ≤ y → y ≤ j + n → g i y = g i j) → (i < stH h g r c j ↔ i < stH h g r c (j + n))
  | 0, _, _ => Iff.rfl
  | n + 1, hn, he => by
    have ih := C.row hi n (by omega) (fun y a1 a2 => he y a1 (by omega))
    rw [ih]
    refine ⟨fun hl => Nat.lt_of_lt_of_le hl (C.le (by omega) hn), fun hl => ?_⟩
    rcases Nat.lt_or_ge i (stH h g r c (j + n)) with h' | h'
    · exact h'
    · exfalso
      have hlt : stH h g r c (j + n) < stH h g r c (j + n + 1) := Nat.lt_of_le_of_lt h' hl
      have hc : c ≤ j + n + 1 := by
        rcases Nat.lt_or_ge (j + n + 1) c with hc | hc
        · rw [stH_low (by omega), stH_low (by omega)] at hlt; omega
        · exact hc
      exact (C.down hc hn hlt).1 i (by omega) hl (by rw [he (j + n) (by omega) (by omega), he (j + n + 1) (by omega) (by omega)])
theorem Corner.rowTwo (C : Corner h wd g a r c) {i j k z : Nat} (hi : i < h) (hj : j < wd) (hk : k < wd) (e1 : g i j = z) (e2 : g i k = z) : i < stH h g r c j ↔ i < stH h g r c k := by
  rcases Nat.le_total j k with hjk | hjk
  · have := C.row (j := j) hi (k - j) (by omega) (fun y a1 a2 => by rw [e1]; exact rect_in C.rect hi hj hi hk e1 e2 (by omega) (by omega))
    rwa [show j + (k - j) = k by omega] at this
  · have := C.row (j := k) hi (j - k) (by omega) (fun y a1 a2 => by rw [e2]; exact rect_in C.rect hi hj hi hk e1 e2 (by omega) (by omega))
    rw [show k + (j - k) = j by omega] at this
    exact this.symm

theorem Corner.left_one (C : Corner h wd g a r c) (nx : NoX h wd g) {x z : Nat} (hx : x = a ∨ AbW h wd g r c x) (hj : JL h wd g x z) : AbW h wd g r c z := by
  obtain ⟨k, s, t, k1, kw, sh, th, hp, es, et⟩ := hj
  have c1 := C.c1
  have r1 := C.r1
  -- the line is not ahead of the room's end, and the room above it is above the way
  have hk : c ≤ k ∧ s < stH h g r c (k - 1) := by
    rcases hx with rfl | hx
    · have hkc : ¬ k < c := fun hl => by
        have := rect_in C.rect (i := s) (j := k - 1) (i' := r - 1) (j' := c - 1) sh (by omega) (by have := C.rh; omega) (by have := C.cw; omega) es C.at_ (x := s) (y := k) (by omega) (by omega)
        exact hp s (by omega) (by rw [es, this])
      have hke : ¬ c < k := fun hl => by
        have := rect_in C.rect (i := s) (j := k - 1) (i' := r - 1) (j' := c - 1) sh (by omega) (by have := C.rh; omega) (by have := C.cw; omega) es C.at_ (x := r - 1) (y := c) (by omega) (by omega)
        exact C.end_ (by omega) this
      obtain rfl : k = c := by omega
      refine ⟨Nat.le_refl _, ?_⟩
      rw [stH_low (by omega)]
      rcases Nat.lt_or_ge s r with hs | hs
      · exact hs
      · have := rect_in C.rect (i := s) (j := k - 1) (i' := r - 1) (j' := k - 1) sh (by omega) (by have := C.rh; omega) (by omega) es C.at_ (x := r) (y := k - 1) (by omega) (by omega)
        exact absurd this (C.low (by omega))
    · have := hx s (k - 1) sh (by omega) es
      exact ⟨by omega, this.2⟩
  obtain ⟨hck, hs⟩ := hk
  -- all of the other one is behind the line
  have hz : ∀ i j, i < h → j < wd → g i j = z → k ≤ j := fun i j hi hj e => by
    rcases Nat.lt_or_ge j k with hl | hl
    · have := rect_in C.rect (i := i) (j := j) (i' := t) (j' := k) hi hj th kw e et (x := t) (y := k - 1) (by omega) (by omega)
      exact absurd (by rw [this, et]) (hp t (by omega))
    · exact hl
  have ht : t < stH h g r c k := by
    rcases Nat.lt_or_ge t (stH h g r c k) with hl | hl
    · exact hl
    · exfalso
      obtain ⟨i1, i2, i3⟩ := C.inv (k - 1) (by omega) (by omega)
      have hkk : k - 1 + 1 = k := by omega
      have hm := C.le (j := k - 1) (k := k) (by omega) kw
      by_cases hlt : stH h g r c (k - 1) < stH h g r c k
      · have hd := C.down (x := k - 1) (by omega) (by omega) (by rw [hkk]; exact hlt)
        rw [hkk] at hd
        exact hp (stH h g r c k) (by omega) (hd.2.2.2.2 (by omega))
      · have he : stH h g r c k = stH h g r c (k - 1) := by omega
        rcases stH_step (g := g) (j := k - 1) (by omega) i2 with ⟨_, hs2⟩ | ⟨s1, s2, s3, s4, s5, s6⟩
        · rw [hkk] at hs2
          rcases hs2 with hs2 | hs2
          · omega
          · generalize stH h g r c (k - 1) = e at *
            exact nx e k (by omega) (by omega) k1 kw ⟨hp (e - 1) (by omega), hp e (by omega), i3 hs2.1, hs2.2⟩
        · rw [hkk] at s6
          exact hp (stH h g r c k) (by omega) (s6 (by omega))
  intro i j hi hj e
  have hj2 := hz i j hi hj e
  refine ⟨by omega, ?_⟩
  have h1 := rect_in C.rect (i := i) (j := j) (i' := t) (j' := k) hi hj th kw e et (x := t) (y := j) (by omega) (by omega)
  have h2 := (C.rowTwo th kw hj et h1).1 ht
  rcases Nat.lt_or_ge i (stH h g r c j) with hl | hl
  · exact hl
  · exfalso
    obtain ⟨i1, i2, i3⟩ := C.inv j (by omega) hj
    have q1 := rect_in C.rect hi hj th hj e h1 (x := stH h g r c j) (y := j) (by omega) (by omega)
    have q2 := rect_in C.rect hi hj th hj e h1 (x := stH h g r c j - 1) (y := j) (by omega) (by omega)
    exact i3 (by omega) (by rw [q1, q2])

theorem Corner.above_one (C : Corner h wd g a r c) (nx : NoX h wd g) {y z : Nat} (hy : y = a ∨ BeW h wd g r c y ∧ (∀ i j, i < h → j < wd → g i j = y → r ≤ i)) (hj : JA h wd g y z) : BeW h wd g r c z ∧ (∀ i j, i < h → j < wd → g i j = z → r ≤ i) := by
  obtain ⟨k, s, t, k1, kh, sw, tw, hp, es, et⟩ := hj
  have c1 := C.c1
  have r1 := C.r1
  have hk : r ≤ k ∧ stH h g r c s ≤ k := by
    rcases hy with rfl | ⟨hy, hy2⟩
    · have hkr : ¬ k < r := fun hl => by
        have := rect_in C.rect (i := k - 1) (j := s) (i' := r - 1) (j' := c - 1) (by omega) sw (by have := C.rh; omega) (by have := C.cw; omega) es C.at_ (x := k) (y := s) (by omega) (by omega)
        exact hp s (by omega) (by rw [es, this])
      have hke : ¬ r < k := fun hl => by
        have := rect_in C.rect (i := k - 1) (j := s) (i' := r - 1) (j' := c - 1) (by omega) sw (by have := C.rh; omega) (by have := C.cw; omega) es C.at_ (x := r) (y := c - 1) (by omega) (by omega)
        exact C.low (by omega) this
      obtain rfl : k = r := by omega
      refine ⟨Nat.le_refl _, ?_⟩
      rcases Nat.lt_or_ge s c with hs | hs
      · rw [stH_low hs]; exact Nat.le_refl _
      · have := rect_in C.rect (i := k - 1) (j := s) (i' := k - 1) (j' := c - 1) (by omega) sw (by omega) (by omega) es C.at_ (x := k - 1) (y := c) (by omega) (by omega)
        exact absurd this (C.end_ (by omega))
    · have h1 := hy (k - 1) s (by omega) sw es
      have h2 := hy2 (k - 1) s (by omega) sw es
      omega
  obtain ⟨hrk, hs⟩ := hk
  have hz : ∀ i j, i < h → j < wd → g i j = z → k ≤ i := fun i j hi hj e => by
    rcases Nat.lt_or_ge i k with hl | hl
    · have := rect_in C.rect (i := i) (j := j) (i' := k) (j' := t) hi hj kh tw e et (x := k - 1) (y := t) (by omega) (by omega)
      exact absurd (by rw [this, et]) (hp t (by omega))
    · exact hl
  have ht : stH h g r c t ≤ k := by
    rcases Nat.lt_or_ge k (stH h g r c t) with hl | hl
    · exfalso
      have hst : s ≤ t := by
        rcases Nat.le_total s t with h' | h'
        · exact h'
        · have := C.le h' sw; omega
      obtain ⟨x, x1, x2, x3, x4, x5⟩ := C.crossing tw hs hl hst
      obtain ⟨d1, d2, d3, d4, d5⟩ := C.down x3 (by omega) (by omega)
      have p1 := hp x (by omega)
      have p2 := hp (x + 1) (by omega)
      rcases Nat.lt_or_ge (stH h g r c x) k with hl2 | hl2
      · have := nx k (x + 1) (by omega) kh (by omega) (by omega)
        rw [Nat.add_sub_cancel] at this
        exact this ⟨d1 (k - 1) (by omega) (by omega), d1 k (by omega) x5, p1, p2⟩
      · obtain he : stH h g r c x = k := by omega
        rw [he] at d4
        exact p2 d4
    · exact hl
  refine ⟨fun i j hi hj e => ?_, fun i j hi hj e => Nat.le_trans hrk (hz i j hi hj e)⟩
  have hi2 := hz i j hi hj e
  have h1 := rect_in C.rect (i := i) (j := j) (i' := k) (j' := t) hi hj kh tw e et (x := k) (y := j) (by omega) (by omega)
  have h2 := C.rowTwo kh tw hj et h1
  omega

theorem Corner.left (C : Corner h wd g a r c) (nx : NoX h wd g) {b : Nat} (hl : LL h wd g a b) : AbW h wd g r c b := by
  unfold LL at hl
  induction hl with
  | single hs => exact C.left_one nx (.inl rfl) hs
  | tail _ hs ih => exact C.left_one nx (.inr ih) hs
theorem Corner.above (C : Corner h wd g a r c) (nx : NoX h wd g) {b : Nat} (hl : AA h wd g a b) : BeW h wd g r c b ∧ (∀ i j, i < h → j < wd → g i j = b → r ≤ i) := by
  unfold AA at hl
  induction hl with
  | single hs => exact C.above_one nx (.inl rfl) hs
  | tail _ hs ih => exact C.above_one nx (.inr ih) hs

/-- the rooms right above the way: the room leads to them -/
theorem Corner.lead_left (C : Corner h wd g a r c) : ∀ n, c - 1 + n < wd → a = g (stH h g r c (c - 1 + n) - 1) (c - 1 + n) ∨ LL h wd g a (g (stH h g r c (c - 1 + n) - 1) (c - 1 + n))
  | 0, _ => by
    have := C.c1
    rw [Nat.add_zero, stH_low (by omega)]
    exact .inl C.at_.symm
  | n + 1, hn => by
    have c1 := C.c1
    have r1 := C.r1
    have ih := C.lead_left n (by omega)
    obtain ⟨i1, i2, i3⟩ := C.inv (c - 1 + n) (by omega) (by omega)
    have hm := C.le (j := c - 1 + n) (k := c - 1 + n + 1) (by omega) hn
    have key : g (stH h g r c (c - 1 + n) - 1) (c - 1 + n) = g (stH h g r c (c - 1 + n + 1) - 1) (c - 1 + n + 1) ∨ LL h wd g (g (stH h g r c (c - 1 + n) - 1) (c - 1 + n)) (g (stH h g r c (c - 1 + n + 1) - 1) (c - 1 + n + 1)) := by
      by_cases hlt : stH h g r c (c - 1 + n) < stH h g r c (c - 1 + n + 1)
      · obtain ⟨d1, d2, d3, d4, d5⟩ := C.down (x := c - 1 + n) (by omega) hn hlt
        refine .inr (.single ⟨c - 1 + n + 1, stH h g r c (c - 1 + n) - 1, stH h g r c (c - 1 + n + 1) - 1, by omega, hn, by omega, by omega, fun i hi => ?_, rfl, rfl⟩)
        exact d1 i (by omega) (by omega)
      · have he : stH h g r c (c - 1 + n + 1) = stH h g r c (c - 1 + n) := by omega
        rw [he]
        exact row_le (by omega) (by omega) hn
    show a = g (stH h g r c (c - 1 + n + 1) - 1) (c - 1 + n + 1) ∨ LL h wd g a (g (stH h g r c (c - 1 + n + 1) - 1) (c - 1 + n + 1))
    rcases ih with e | e
    · rcases key with k | k
      · exact .inl (e.trans k)
      · rw [← e] at k; exact .inr k
    · rcases key with k | k
      · rw [k] at e; exact .inr e
      · exact .inr (Relation.TransGen.trans e k)
/-- the rooms right below the way: the room is above them -/
theorem Corner.lead_above (C : Corner h wd g a r c) : ∀ n, c - 1 + n < wd → stH h g r c (c - 1 + n) < h →
    ∃ k, k ≤ c - 1 + n ∧ (∀ j, k ≤ j → j ≤ c - 1 + n → g (stH h g r c (c - 1 + n) - 1) j ≠ g (stH h g r c (c - 1 + n)) j) ∧ (a = g (stH h g r c (c - 1 + n) - 1) k ∨ AA h wd g a (g (stH h g r c (c - 1 + n) - 1) k))
  | 0, hw, hl => by
    have := C.c1
    refine ⟨c - 1, by omega, fun j j1 j2 => ?_, ?_⟩
    · obtain rfl : j = c - 1 := by omega
      exact (C.inv (c - 1) (by omega) hw).2.2 hl
    · rw [Nat.add_zero, stH_low (by omega)]; exact .inl C.at_.symm
  | n + 1, hn, hl => by
    have c1 := C.c1
    have r1 := C.r1
    have hl2 : stH h g r c (c - 1 + n + 1) < h := hl
    show ∃ k, k ≤ c - 1 + n + 1 ∧ (∀ j, k ≤ j → j ≤ c - 1 + n + 1 → g (stH h g r c (c - 1 + n + 1) - 1) j ≠ g (stH h g r c (c - 1 + n + 1)) j) ∧ (a = g (stH h g r c (c - 1 + n + 1) - 1) k ∨ AA h wd g a (g (stH h g r c (c - 1 + n + 1) - 1) k))
    have hm := C.le (j := c - 1 + n) (k := c - 1 + n + 1) (by omega) hn
    obtain ⟨k, k1, k2, k3⟩ := C.lead_above n (by omega) (by omega)
    obtain ⟨i1, i2, i3⟩ := C.inv (c - 1 + n + 1) (by omega) hn
    by_cases hlt : stH h g r c (c - 1 + n) < stH h g r c (c - 1 + n + 1)
    · obtain ⟨d1, d2, d3, d4, d5⟩ := C.down (x := c - 1 + n) (by omega) hn hlt
      have e5 := d5 hl2
      have v2 := i3 hl2
      have i0 := (C.inv (c - 1 + n) (by omega) (by omega)).1
      generalize hE : stH h g r c (c - 1 + n + 1) = E at *
      generalize he : stH h g r c (c - 1 + n) = e at *
      have u := d1 (E - 1) (by omega) (by omega)
      have v1 : g (E - 1) (c - 1 + n) ≠ g E (c - 1 + n) := fun heq => by
        have := rect_two C.rect (i := E - 1) (j := c - 1 + n) (i' := E) (j' := c - 1 + n + 1) (by omega) (by omega) hl2 hn (by rw [← e5, heq])
        exact u this.1.symm
      refine ⟨c - 1 + n, by omega, fun j j1 j2 => ?_, ?_⟩
      · rcases (show j = c - 1 + n ∨ j = c - 1 + n + 1 by omega) with rfl | rfl
        · exact v1
        · exact v2
      · have hA : AA h wd g a (g e (c - 1 + n)) := by
          have hs : JA h wd g (g (e - 1) k) (g e (c - 1 + n)) := ⟨e, k, c - 1 + n, by omega, by omega, by omega, by omega, fun j hj => k2 j (by omega) (by omega), rfl, rfl⟩
          rcases k3 with k3 | k3
          · rw [← k3] at hs; exact .single hs
          · exact .tail k3 hs
        rcases col_le (g := g) (wd := wd) (j := c - 1 + n) (i := e) (i' := E - 1) (h := h) (by omega) (by omega) (by omega) with q | q
        · rw [q] at hA; exact .inr hA
        · exact .inr (Relation.TransGen.trans hA q)
    · have he : stH h g r c (c - 1 + n + 1) = stH h g r c (c - 1 + n) := by omega
      rw [he] at i3 hl2 ⊢
      refine ⟨k, by omega, fun j j1 j2 => ?_, k3⟩
      rcases (show j ≤ c - 1 + n ∨ j = c - 1 + n + 1 by omega) with hj | rfl
      · exact k2 j j1 hj
      · exact i3 hl2

/-- a room that lies to the right and below -/
theorem Corner.there (C : Corner h wd g a r c) {q k : Nat} (hq : r ≤ q) (hqh : q < h) (hk : c ≤ k) (hkw : k < wd) : LL h wd g a (g q k) ∨ AA h wd g a (g q k) := by
  have c1 := C.c1
  have r1 := C.r1
  rcases Nat.lt_or_ge q (stH h g r c k) with hl | hl
  · left
    obtain ⟨x, x1, x2, x3, x4, x5⟩ := C.crossing (j := c - 1) (q := q) hkw (by rw [stH_low (by omega)]; exact hq) hl (by omega)
    obtain ⟨d1, d2, d3, d4, d5⟩ := C.down x3 (by omega) (by omega)
    have hs : JL h wd g (g (stH h g r c x - 1) x) (g q (x + 1)) := ⟨x + 1, stH h g r c x - 1, q, by omega, by omega, by omega, hqh, fun i hi => d1 i (by omega) (by omega), rfl, rfl⟩
    have ha := C.lead_left (x - (c - 1)) (by omega)
    rw [show c - 1 + (x - (c - 1)) = x by omega] at ha
    have hz : LL h wd g a (g q (x + 1)) := by
      rcases ha with e | e
      · rw [← e] at hs; exact .single hs
      · exact .tail e hs
    rcases row_le (h := h) (g := g) (i := q) (j := x + 1) (j' := k) hqh (by omega) hkw with e | e
    · rw [← e]; exact hz
    · exact Relation.TransGen.trans hz e
  · right
    obtain ⟨y, y1, y2, y3⟩ := C.lead_above (k - (c - 1)) (by omega) (by rw [show c - 1 + (k - (c - 1)) = k by omega]; omega)
    rw [show c - 1 + (k - (c - 1)) = k by omega] at y1 y2 y3
    have i1 := (C.inv k (by omega) hkw).1
    have hs : JA h wd g (g (stH h g r c k - 1) y) (g (stH h g r c k) k) := ⟨stH h g r c k, y, k, by omega, by omega, by omega, hkw, fun j hj => y2 j (by omega) (by omega), rfl, rfl⟩
    have hz : AA h wd g a (g (stH h g r c k) k) := by
      rcases y3 with e | e
      · rw [← e] at hs; exact .single hs
      · exact .tail e hs
    rcases col_le (h := h) (g := g) (j := k) (i := stH h g r c k) (i' := q) hkw hl hqh with e | e
    · rw [← e]; exact hz
    · exact Relation.TransGen.trans hz e
end

/-- each room has a lower right corner -/
theorem corner_of {h wd : Nat} {g : Nat → Nat → Nat} (hr : RectG h wd g) {i j : Nat} (hi : i < h) (hj : j < wd) : ∃ r c, Corner h wd g (g i j) r c ∧ i < r ∧ j < c ∧ (∀ x y, x < h → y < wd → g x y = g i j → x < r ∧ y < c) := by
  obtain ⟨ro, co, a, b, ha, hb, hin⟩ := hr i j hi hj
  have h1 := (hin i j hi hj).1 rfl
  unfold InR at hin h1
  refine ⟨ro + a, co + b, ⟨hr, by omega, ha, by omega, hb, (hin _ _ (by omega) (by omega)).2 (by omega), fun hl e => ?_, fun hl e => ?_⟩, by omega, by omega, fun x y hx hy e => ?_⟩
  · have := (hin _ _ hl (by omega)).1 e; omega
  · have := (hin _ _ (by omega) hl).1 e; omega
  · have := (hin x y hx hy).1 e; omega

/-- never both left and above -/
theorem not_both {h wd : Nat} {g : Nat → Nat → Nat} (hr : RectG h wd g) (nx : NoX h wd g) {a b : Nat} (hA : ∃ i j, i < h ∧ j < wd ∧ g i j = a) (hB : ∃ i j, i < h ∧ j < wd ∧ g i j = b) : ¬ (LL h wd g a b ∧ AA h wd g a b) := by
  rintro ⟨hl, ha⟩
  obtain ⟨i, j, hi, hj, rfl⟩ := hA
  obtain ⟨x, y, hx, hy, rfl⟩ := hB
  obtain ⟨r, c, C, _⟩ := corner_of hr hi hj
  have h1 := (C.left nx hl x y hx hy rfl).2
  have h2 := (C.above nx ha).1 x y hx hy rfl
  omega
/-- a room left of another one has all its cells ahead of it -/
theorem left_cols {h wd : Nat} {g : Nat → Nat → Nat} (hr : RectG h wd g) (nx : NoX h wd g) {i j x y : Nat} (hi : i < h) (hj : j < wd) (hx : x < h) (hy : y < wd) (hl : LL h wd g (g i j) (g x y)) : j < y := by
  obtain ⟨r, c, C, _, c2, c3⟩ := corner_of hr hi hj
  have := (C.left nx hl x y hx hy rfl).1
  omega
theorem above_rows {h wd : Nat} {g : Nat → Nat → Nat} (hr : RectG h wd g) (nx : NoX h wd g) {i j x y : Nat} (hi : i < h) (hj : j < wd) (hx : x < h) (hy : y < wd) (hl : AA h wd g (g i j) (g x y)) : i < x := by
  obtain ⟨r, c, C, r2, _, c3⟩ := corner_of hr hi hj
  have := (C.above nx hl).2 x y hx hy rfl
  omega
end Go.Proofs.Yteallnkaapdifaa
