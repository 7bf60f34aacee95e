/-
  Merged texts: OrdMG OrdIO OrdPX.
-/
import Derived.Test.YtlgbefmgpmdolaaSpecWXQ
import Derived.Test.YtlgbefmgpmdolaaOutlQ
import Derived.Test.YtlgbefmgpmdolaaWallsQ
import Derived.Test.YtlgbefmgpmdolaaMathBQ
import Derived.Test.YtlgbefmgpmdolaaMathCEQ
import Derived.Test.YtlgbefmgpmdolaaMeetQ
import Derived.Test.YtlgbefmgpmdolaaTurnsQ
import Derived.Test.YtlgbefmgpmdolaaMathFQ
import Derived.OrdersHeld
import Derived.BigRegion
import Derived.Deep.MidRow

/-
  Merged texts: OrdM OrdG OrdW.
-/
/-
  Rooms that lead to rooms: just over walls, and by way of others. (Plain mathematics.)
-/
namespace Go.Proofs.Ytlgbefmgpmdolaa
open Go.RowKit

/-- by way of the first rooms: what comes of leading on over them, one behind the other -/
def wars (f : Nat → Nat → Bool) : Nat → Nat → Nat → Bool
  | 0, a, b => f a b
  | c + 1, a, b => wars f c a b || (wars f c a c && wars f c c b)
/-- the rooms ahead of a wall and behind it -/
def aheadL (g : Nat → Nat → Nat) (X : Wl) : List Int := compactL (cellsA g X X.long)
def behindL (g : Nat → Nat → Nat) (X : Wl) : List Int := compactL (cellsB' g X X.long)
/-- over one wall -/
def overW (g : Nat → Nat → Nat) (way : Nat) (X : Wl) (a b : Nat) : Bool := (X.way == way) && ((aheadL g X).contains (a : Int) && (behindL g X).contains (b : Int))
/-- over some walls -/
def justL (g : Nat → Nat → Nat) (way : Nat) (L : List Wl) (a b : Nat) : Bool := L.any fun X => overW g way X a b
/-- the rooms to which a room leads just over walls, and in the end -/
def justG (h wd : Nat) (g : Nat → Nat → Nat) (way : Nat) : Nat → Nat → Bool := justL g way (wallsG h wd g)
def leadG (h wd r : Nat) (g : Nat → Nat → Nat) (way : Nat) : Nat → Nat → Bool := wars (justG h wd g way) r
end Go.Proofs.Ytlgbefmgpmdolaa

/-
  Rooms left of rooms and above them, on a grid: each two rooms of a plain one are in just one order. (Plain mathematics.)
-/
namespace Go.Proofs.Ytlgbefmgpmdolaa

/-- just left: a line between two columns that parts rooms throughout has one room on its left and the other one on its right -/
def JL (h wd : Nat) (g : Nat → Nat → Nat) (a b : Nat) : Prop :=
  ∃ k s t, 1 ≤ k ∧ k < wd ∧ s < h ∧ t < h ∧ (∀ i, (s ≤ i ∧ i ≤ t) ∨ (t ≤ i ∧ i ≤ s) → g i (k - 1) ≠ g i k) ∧ g s (k - 1) = a ∧ g t k = b
/-- left, above -/
def LL (h wd : Nat) (g : Nat → Nat → Nat) : Nat → Nat → Prop := Relation.TransGen (JL h wd g)
/-- no cross -/
def NoX (h wd : Nat) (g : Nat → Nat → Nat) : Prop := ∀ i k, 1 ≤ i → i < h → 1 ≤ k → k < wd → ¬ (g (i - 1) (k - 1) ≠ g (i - 1) k ∧ g i (k - 1) ≠ g i k ∧ g (i - 1) (k - 1) ≠ g i (k - 1) ∧ g (i - 1) k ≠ g i k)

/-- the cells of a room lie all between any two of them -/
theorem rect_in {h wd : Nat} {g : Nat → Nat → Nat} (hr : RectG h wd g) {i j i' j' z : Nat} (hi : i < h) (hj : j < wd) (hi' : i' < h) (hj' : j' < wd) (e : g i j = z) (e' : g i' j' = z)
    {x y : Nat} (hx : i ≤ x ∧ x ≤ i' ∨ i' ≤ x ∧ x ≤ i) (hy : j ≤ y ∧ y ≤ j' ∨ j' ≤ y ∧ y ≤ j) : g x y = z := by
  subst e
  obtain ⟨r, c, a, b, _, _, hin⟩ := hr i j hi hj
  have h1 := (hin i j hi hj).1 rfl
  have h2 := (hin i' j' hi' hj').1 e'
  unfold InR at h1 h2
  exact (hin x y (by omega) (by omega)).2 (by unfold InR; omega)

theorem rect_two {h wd : Nat} {g : Nat → Nat → Nat} (hr : RectG h wd g) {i j i' j' : Nat} (hi : i < h) (hj : j < wd) (hi' : i' < h) (hj' : j' < wd) (he : g i' j' = g i j) : g i j' = g i j ∧ g i' j = g i j :=
  ⟨rect_in hr hi hj hi' hj' rfl he (by omega) (by omega), rect_in hr hi hj hi' hj' rfl he (by omega) (by omega)⟩

/-- the way down from a room's lower right corner: along level lines as far as they go, then down along upright ones -/
def stair (h : Nat) (g : Nat → Nat → Nat) (r c : Nat) : Nat → Nat
  | 0 => r
  | t + 1 => if h ≤ stair h g r c t then stair h g r c t else if g (stair h g r c t - 1) (c + t) ≠ g (stair h g r c t) (c + t) then stair h g r c t
    else stair h g r c t + runFrom (upF h g (c + t)) h (stair h g r c t)
/-- how far down it is at a column -/
def stH (h : Nat) (g : Nat → Nat → Nat) (r c j : Nat) : Nat := stair h g r c (j + 1 - c)

theorem stH_low {h : Nat} {g : Nat → Nat → Nat} {r c j : Nat} (hj : j < c) : stH h g r c j = r := by
  unfold stH; rw [show j + 1 - c = 0 by omega]; rfl
/-- one step of it -/
theorem stH_step {h : Nat} {g : Nat → Nat → Nat} {r c j : Nat} (hj : c ≤ j + 1) (hle : stH h g r c j ≤ h) :
    (stH h g r c (j + 1) = stH h g r c j ∧ (stH h g r c j = h ∨ stH h g r c j < h ∧ g (stH h g r c j - 1) (j + 1) ≠ g (stH h g r c j) (j + 1))) ∨
    (stH h g r c j < h ∧ g (stH h g r c j - 1) (j + 1) = g (stH h g r c j) (j + 1) ∧ stH h g r c j ≤ stH h g r c (j + 1) ∧ stH h g r c (j + 1) ≤ h ∧
      (∀ i, stH h g r c j ≤ i → i < stH h g r c (j + 1) → g i j ≠ g i (j + 1)) ∧ (stH h g r c (j + 1) < h → g (stH h g r c (j + 1)) j = g (stH h g r c (j + 1)) (j + 1))) := by
  have e1 : stH h g r c (j + 1) = stair h g r c ((j + 1 - c) + 1) := by unfold stH; rw [show j + 1 + 1 - c = (j + 1 - c) + 1 by omega]
  have e2 : stair h g r c (j + 1 - c) = stH h g r c j := rfl
  rw [e1, stair, e2, show c + (j + 1 - c) = j + 1 by omega]
  generalize stH h g r c j = e at hle ⊢
  by_cases h1 : h ≤ e
  · rw [if_pos h1]; exact .inl ⟨rfl, .inl (by omega)⟩
  · rw [if_neg h1]
    by_cases h2 : g (e - 1) (j + 1) ≠ g e (j + 1)
    · rw [if_pos h2]; exact .inl ⟨rfl, .inr ⟨by omega, h2⟩⟩
    · rw [if_neg h2]
      have hl := runFrom_le (upF h g (j + 1)) h e
      refine .inr ⟨by omega, Classical.not_not.1 h2, by omega, by omega, fun i i1 i2 => ?_, fun hs => ?_⟩
      · have := runFrom_all i1 i2
        unfold upF at this
        simp only [Bool.and_eq_true, decide_eq_true_eq, Nat.add_sub_cancel] at this
        exact this.2
      · have := runFrom_stop (f := upF h g (j + 1)) (by omega) hs
        unfold upF at this
        simp only [Bool.and_eq_false_iff, decide_eq_false_iff_not, Nat.add_sub_cancel] at this
        rcases this with h' | h'
        · exact absurd hs h'
        · exact Classical.not_not.1 h'

/-- what is known of a room and its lower right corner -/
structure Corner (h wd : Nat) (g : Nat → Nat → Nat) (a r c : Nat) : Prop where
  rect : RectG h wd g
  r1 : 1 ≤ r
  rh : r ≤ h
  c1 : 1 ≤ c
  cw : c ≤ wd
  at_ : g (r - 1) (c - 1) = a
  low : r < h → g r (c - 1) ≠ a
  end_ : c < wd → g (r - 1) c ≠ a

section
variable {h wd : Nat} {g : Nat → Nat → Nat} {a r c : Nat}

/-- below the way, rooms part -/
theorem Corner.inv (C : Corner h wd g a r c) : ∀ j, c ≤ j + 1 → j < wd → r ≤ stH h g r c j ∧ stH h g r c j ≤ h ∧ (stH h g r c j < h → g (stH h g r c j - 1) j ≠ g (stH h g r c j) j) := by
  have base : r ≤ stH h g r c (c - 1) ∧ stH h g r c (c - 1) ≤ h ∧ (stH h g r c (c - 1) < h → g (stH h g r c (c - 1) - 1) (c - 1) ≠ g (stH h g r c (c - 1)) (c - 1)) := by
    have := C.c1
    rw [stH_low (by omega)]
    exact ⟨Nat.le_refl _, C.rh, fun hl => by rw [C.at_]; exact fun e => C.low hl e.symm⟩
  intro j
  induction j with
  | zero =>
    intro h1 h2
    have := C.c1
    rwa [show c - 1 = 0 by omega] at base
  | succ j ih =>
    intro h1 h2
    by_cases hc : c ≤ j + 1
    · obtain ⟨i1, i2, i3⟩ := ih hc (by omega)
      rcases stH_step (g := g) hc i2 with ⟨e, hs⟩ | ⟨s1, s2, s3, s4, s5, s6⟩
      · rw [e]
        refine ⟨i1, i2, fun hl => ?_⟩
        rcases hs with hs | hs
        · omega
        · exact hs.2
      · refine ⟨by omega, s4, fun hl => ?_⟩
        have e6 := s6 hl
        generalize stH h g r c (j + 1) = E at *
        generalize stH h g r c j = e at *
        have r1 := C.r1
        have hup : g (E - 1) j ≠ g (E - 1) (j + 1) := by
          by_cases he : e < E
          · exact s5 (E - 1) (by omega) (by omega)
          · obtain rfl : E = e := by omega
            intro heq
            exact i3 s1 (by rw [heq, s2, e6])
        intro heq
        have := rect_two C.rect (i := E - 1) (j := j + 1) (i' := E) (j' := j) (by omega) h2 hl (by omega) (by rw [e6, heq])
        exact hup this.1
    · obtain rfl : c = j + 1 + 1 := by omega
      simpa using base
theorem Corner.mono (C : Corner h wd g a r c) {j : Nat} : ∀ n, j + n < wd → stH h g r c j ≤ stH h g r c (j + n)
  | 0, _ => Nat.le_refl _
  | n + 1, hn => by
    have ih := C.mono (j := j) n (by omega)
    refine Nat.le_trans ih ?_
    by_cases hc : c ≤ j + n + 1
    · obtain ⟨i1, i2, i3⟩ := C.inv (j + n) hc (by omega)
      rcases stH_step (g := g) hc i2 with ⟨e, _⟩ | ⟨_, _, s3, _⟩
      · exact Nat.le_of_eq e.symm
      · exact s3
    · rw [stH_low (by omega), show j + (n + 1) = (j + n) + 1 by omega, stH_low (by omega)]; exact Nat.le_refl _
theorem Corner.le (C : Corner h wd g a r c) {j k : Nat} (hj : j ≤ k) (hk : k < wd) : stH h g r c j ≤ stH h g r c k := by
  have := C.mono (j := j) (k - j) (by omega)
  rwa [show j + (k - j) = k by omega] at this
/-- at a row at which the way goes down, rooms part -/
theorem Corner.down (C : Corner h wd g a r c) {x : Nat} (hc : c ≤ x + 1) (hx : x + 1 < wd) (hlt : stH h g r c x < stH h g r c (x + 1)) :
    (∀ i, stH h g r c x - 1 ≤ i → i < stH h g r c (x + 1) → g i x ≠ g i (x + 1)) ∧ stH h g r c x < h ∧ stH h g r c (x + 1) ≤ h ∧ g (stH h g r c x - 1) (x + 1) = g (stH h g r c x) (x + 1) ∧
    (stH h g r c (x + 1) < h → g (stH h g r c (x + 1)) x = g (stH h g r c (x + 1)) (x + 1)) := by
  obtain ⟨i1, i2, i3⟩ := C.inv x hc (by omega)
  rcases stH_step (g := g) hc i2 with ⟨e, _⟩ | ⟨s1, s2, s3, s4, s5, s6⟩
  · omega
  · refine ⟨fun i a1 a2 => ?_, s1, s4, s2, s6⟩
    by_cases hi : stH h g r c x ≤ i
    · exact s5 i hi a2
    · have r1 := C.r1
      obtain rfl : i = stH h g r c x - 1 := by omega
      intro heq
      have h3 := i3 s1
      have := rect_two C.rect (i := stH h g r c x - 1) (j := x) (i' := stH h g r c x) (j' := x + 1) (by omega) (by omega) s1 hx (by rw [heq, s2])
      exact h3 this.2.symm

/-- above the way, and below it -/
def AbW (h wd : Nat) (g : Nat → Nat → Nat) (r c z : Nat) : Prop := ∀ i j, i < h → j < wd → g i j = z → c ≤ j ∧ i < stH h g r c j
/-- along a row of a room, the way stays on one side -/
theorem Corner.row (C : Corner h wd g a r c) {i j : Nat} (hi : i < h) : ∀ n, j + n < wd → (∀ y, j ≤ y → y ≤ j + n → g i y = g i j) → (i < stH h g r c j ↔ i < stH h g r c (j + n))
  | 0, _, _ => Iff.rfl
  | n + 1, hn, he => by
    have ih := C.row hi n (by omega) (fun y a1 a2 => he y a1 (by omega))
    rw [ih]
    refine ⟨fun hl => Nat.lt_of_lt_of_le hl (C.le (by omega) hn), fun hl => ?_⟩
    rcases Nat.lt_or_ge i (stH h g r c (j + n)) with h' | h'
    · exact h'
    · exfalso
      have hlt : stH h g r c (j + n) < stH h g r c (j + n + 1) := Nat.lt_of_le_of_lt h' hl
      have hc : c ≤ j + n + 1 := by
        rcases Nat.lt_or_ge (j + n + 1) c with hc | hc
        · rw [stH_low (by omega), stH_low (by omega)] at hlt; omega
        · exact hc
      exact (C.down hc hn hlt).1 i (by omega) hl (by rw [he (j + n) (by omega) (by omega), he (j + n + 1) (by omega) (by omega)])
theorem Corner.rowTwo (C : Corner h wd g a r c) {i j k z : Nat} (hi : i < h) (hj : j < wd) (hk : k < wd) (e1 : g i j = z) (e2 : g i k = z) : i < stH h g r c j ↔ i < stH h g r c k := by
  rcases Nat.le_total j k with hjk | hjk
  · have := C.row (j := j) hi (k - j) (by omega) (fun y a1 a2 => by rw [e1]; exact rect_in C.rect hi hj hi hk e1 e2 (by omega) (by omega))
    rwa [show j + (k - j) = k by omega] at this
  · have := C.row (j := k) hi (j - k) (by omega) (fun y a1 a2 => by rw [e2]; exact rect_in C.rect hi hj hi hk e1 e2 (by omega) (by omega))
    rw [show k + (j - k) = j by omega] at this
    exact this.symm

theorem Corner.left_one (C : Corner h wd g a r c) (nx : NoX h wd g) {x z : Nat} (hx : x = a ∨ AbW h wd g r c x) (hj : JL h wd g x z) : AbW h wd g r c z := by
  obtain ⟨k, s, t, k1, kw, sh, th, hp, es, et⟩ := hj
  have c1 := C.c1
  have r1 := C.r1
  -- the line is not ahead of the room's end, and the room above it is above the way
  have hk : c ≤ k ∧ s < stH h g r c (k - 1) := by
    rcases hx with rfl | hx
    · have hkc : ¬ k < c := fun hl => by
        have := rect_in C.rect (i := s) (j := k - 1) (i' := r - 1) (j' := c - 1) sh (by omega) (by have := C.rh; omega) (by have := C.cw; omega) es C.at_ (x := s) (y := k) (by omega) (by omega)
        exact hp s (by omega) (by rw [es, this])
      have hke : ¬ c < k := fun hl => by
        have := rect_in C.rect (i := s) (j := k - 1) (i' := r - 1) (j' := c - 1) sh (by omega) (by have := C.rh; omega) (by have := C.cw; omega) es C.at_ (x := r - 1) (y := c) (by omega) (by omega)
        exact C.end_ (by omega) this
      obtain rfl : k = c := by omega
      refine ⟨Nat.le_refl _, ?_⟩
      rw [stH_low (by omega)]
      rcases Nat.lt_or_ge s r with hs | hs
      · exact hs
      · have := rect_in C.rect (i := s) (j := k - 1) (i' := r - 1) (j' := k - 1) sh (by omega) (by have := C.rh; omega) (by omega) es C.at_ (x := r) (y := k - 1) (by omega) (by omega)
        exact absurd this (C.low (by omega))
    · have := hx s (k - 1) sh (by omega) es
      exact ⟨by omega, this.2⟩
  obtain ⟨hck, hs⟩ := hk
  -- all of the other one is behind the line
  have hz : ∀ i j, i < h → j < wd → g i j = z → k ≤ j := fun i j hi hj e => by
    rcases Nat.lt_or_ge j k with hl | hl
    · have := rect_in C.rect (i := i) (j := j) (i' := t) (j' := k) hi hj th kw e et (x := t) (y := k - 1) (by omega) (by omega)
      exact absurd (by rw [this, et]) (hp t (by omega))
    · exact hl
  have ht : t < stH h g r c k := by
    rcases Nat.lt_or_ge t (stH h g r c k) with hl | hl
    · exact hl
    · exfalso
      obtain ⟨i1, i2, i3⟩ := C.inv (k - 1) (by omega) (by omega)
      have hkk : k - 1 + 1 = k := by omega
      have hm := C.le (j := k - 1) (k := k) (by omega) kw
      by_cases hlt : stH h g r c (k - 1) < stH h g r c k
      · have hd := C.down (x := k - 1) (by omega) (by omega) (by rw [hkk]; exact hlt)
        rw [hkk] at hd
        exact hp (stH h g r c k) (by omega) (hd.2.2.2.2 (by omega))
      · have he : stH h g r c k = stH h g r c (k - 1) := by omega
        rcases stH_step (g := g) (j := k - 1) (by omega) i2 with ⟨_, hs2⟩ | ⟨s1, s2, s3, s4, s5, s6⟩
        · rw [hkk] at hs2
          rcases hs2 with hs2 | hs2
          · omega
          · generalize stH h g r c (k - 1) = e at *
            exact nx e k (by omega) (by omega) k1 kw ⟨hp (e - 1) (by omega), hp e (by omega), i3 hs2.1, hs2.2⟩
        · rw [hkk] at s6
          exact hp (stH h g r c k) (by omega) (s6 (by omega))
  intro i j hi hj e
  have hj2 := hz i j hi hj e
  refine ⟨by omega, ?_⟩
  have h1 := rect_in C.rect (i := i) (j := j) (i' := t) (j' := k) hi hj th kw e et (x := t) (y := j) (by omega) (by omega)
  have h2 := (C.rowTwo th kw hj et h1).1 ht
  rcases Nat.lt_or_ge i (stH h g r c j) with hl | hl
  · exact hl
  · exfalso
    obtain ⟨i1, i2, i3⟩ := C.inv j (by omega) hj
    have q1 := rect_in C.rect hi hj th hj e h1 (x := stH h g r c j) (y := j) (by omega) (by omega)
    have q2 := rect_in C.rect hi hj th hj e h1 (x := stH h g r c j - 1) (y := j) (by omega) (by omega)
    exact i3 (by omega) (by rw [q1, q2])

theorem Corner.left (C : Corner h wd g a r c) (nx : NoX h wd g) {b : Nat} (hl : LL h wd g a b) : AbW h wd g r c b := by
  unfold LL at hl
  induction hl with
  | single hs => exact C.left_one nx (.inl rfl) hs
  | tail _ hs ih => exact C.left_one nx (.inr ih) hs
end

end Go.Proofs.Ytlgbefmgpmdolaa

/-
  Leading over walls told by cells, and what of two rooms of a plain plan there is. (Plain mathematics.)
-/
namespace Go.Proofs.Ytlgbefmgpmdolaa

/-! # ways by way of other rooms -/
/-! # over walls -/
/-! # upside down -/
end Go.Proofs.Ytlgbefmgpmdolaa

/-
  Merged texts: OrdI OrdL OrdO.
-/
/-
  Orders of rooms: what they are in memory, and how rooms lead on. (Walks.)
-/
namespace Go.Proofs.Ytlgbefmgpmdolaa
open Go.RowKit

/-- which room leads to which, by the way of the walls, as cells behind a plan's -/
def ldsL (F : Nat → Nat → Nat → Bool) : List Value := (List.range 162).map fun i => .bool (F (i / 81) (i % 81 / 9) (i % 9))
def ordC (C : Array Value) (F : Nat → Nat → Nat → Bool) : Array Value := C ++ (ldsL F).toArray
theorem ldsL_len (F : Nat → Nat → Nat → Bool) : (ldsL F).length = 162 := by simp [ldsL]
theorem ldsL_at (F : Nat → Nat → Nat → Bool) {way a b : Nat} (hw : way < 2) (ha : a < 9) (hb : b < 9) : (ldsL F)[way * 81 + a * 9 + b]? = some (.bool (F way a b)) := by
  unfold ldsL
  rw [List.getElem?_map, List.getElem?_range (by omega)]
  simp only [Option.map_some]
  rw [show (way * 81 + a * 9 + b) / 81 = way by omega, show (way * 81 + a * 9 + b) % 81 / 9 = a by omega, show (way * 81 + a * 9 + b) % 9 = b by omega]
/-- one lead told -/
def putLd (F : Nat → Nat → Nat → Bool) (way a b : Nat) (v : Bool) : Nat → Nat → Nat → Bool := fun w x y => if w = way ∧ x = a ∧ y = b then v else F w x y
theorem ldsL_put (F : Nat → Nat → Nat → Bool) {way a b : Nat} (hw : way < 2) (ha : a < 9) (hb : b < 9) (v : Bool) : (ldsL F).set (way * 81 + a * 9 + b) (.bool v) = ldsL (putLd F way a b v) := by
  apply List.ext_getElem?
  intro i
  rw [List.getElem?_set]
  by_cases hi : way * 81 + a * 9 + b = i
  · subst hi
    rw [if_pos rfl, if_pos (by rw [ldsL_len]; omega), ldsL_at _ hw ha hb]
    simp [putLd]
  · rw [if_neg hi]
    by_cases hl : i < 162
    · unfold ldsL
      rw [List.getElem?_map, List.getElem?_map, List.getElem?_range hl]
      simp only [Option.map_some, putLd]
      rw [if_neg (by omega)]
    · rw [List.getElem?_eq_none (by rw [ldsL_len]; omega), List.getElem?_eq_none (by rw [ldsL_len]; omega)]
theorem ordC_put {C : Array Value} (h : C.size = 39) (F : Nat → Nat → Nat → Bool) {way a b : Nat} (hw : way < 2) (ha : a < 9) (hb : b < 9) (v : Bool) : (ordC C F).setIfInBounds (39 + way * 81 + a * 9 + b) (.bool v) = ordC C (putLd F way a b v) := by
  unfold ordC
  apply Array.toList_inj.1
  rw [Array.toList_setIfInBounds, Array.toList_append, Array.toList_append, List.set_append_right _ _ (by rw [Array.length_toList]; omega), Array.length_toList, h, show 39 + way * 81 + a * 9 + b - 39 = way * 81 + a * 9 + b by omega]
  congr 1
  exact ldsL_put F hw ha hb v
/-- how far the leading on over one room has come -/
def midF (f : Nat → Nat → Bool) (c i j : Nat) (a b : Nat) : Bool := if a < i ∨ a = i ∧ b < j then wars f (c + 1) a b else wars f c a b
theorem midF_step (f : Nat → Nat → Bool) (c i j a b : Nat) : midF f c i (j + 1) a b = if a = i ∧ b = j then wars f (c + 1) i j else midF f c i j a b := by
  unfold midF
  by_cases h : a = i ∧ b = j
  · obtain ⟨rfl, rfl⟩ := h; rw [if_pos (by omega), if_pos ⟨rfl, rfl⟩]
  · rw [if_neg h]
    by_cases h2 : a < i ∨ a = i ∧ b < j
    · rw [if_pos h2, if_pos (by omega)]
    · rw [if_neg h2, if_neg (by omega)]
/-- leads of one way in place of others -/
def wayF' (F : Nat → Nat → Nat → Bool) (way : Nat) (f : Nat → Nat → Bool) : Nat → Nat → Nat → Bool := fun w a b => if w = way then f a b else F w a b
theorem wayF_put (F : Nat → Nat → Nat → Bool) (way : Nat) (f : Nat → Nat → Bool) (c i j : Nat) : putLd (wayF' F way (midF f c i j)) way i j (wars f (c + 1) i j) = wayF' F way (midF f c i (j + 1)) := by
  funext w a b
  unfold putLd wayF'
  rw [midF_step]
  by_cases h1 : w = way
  · rw [if_pos h1, if_pos h1]
    by_cases h2 : a = i ∧ b = j
    · rw [if_pos ⟨h1, h2⟩, if_pos h2]
    · rw [if_neg (fun e => h2 e.2), if_neg h2]
  · rw [if_neg (fun e => h1 e.1), if_neg h1, if_neg h1]
end Go.Proofs.Ytlgbefmgpmdolaa

/-
  How rooms lead on by way of other rooms: the program's three loops. (Walk.)
-/
namespace Go.Proofs.Ytlgbefmgpmdolaa
open Go.RowKit

theorem grownBy_cell (w : World) (b i : Nat) (v : Value) : w.grownBy (w.setCell ⟨b, i, none⟩ v) (some b) :=
  ⟨rfl, rfl, rfl, (KeepsWalks.setCell w _ v).size, fun k _ hk => Below.heap_setCell _ _ _ k (fun e => hk (by rw [e]))⟩

/-- the world in which the leading on has come so far -/
def LeadSt (w : World) (B : Nat) (C : Array Value) (F : Nat → Nat → Nat → Bool) (way c i j : Nat) (wr : World) : Prop :=
  HeldB wr B 83 (ordC C (wayF' F way (midF (F way) c i j))) ∧ w.grownBy wr (some B)
theorem LeadSt.drew {w : World} {B : Nat} {C : Array Value} {F : Nat → Nat → Nat → Bool} {way c i j : Nat} {wr : World} (h : LeadSt w B C F way c i j wr) : LeadSt w B C F way c i j wr.drew :=
  ⟨h.1.drew, grownBy_trans h.2 (grownBy_of_below (below_drewN _ wr 1) _)⟩
theorem LeadSt.put {w : World} {B : Nat} {C : Array Value} (hC : C.size = 39) {F : Nat → Nat → Nat → Bool} {way c i j : Nat} {wr : World} (hw : way < 2) (hi : i < 9) (hj : j < 9) (h : LeadSt w B C F way c i j wr) :
    LeadSt w B C F way c i (j + 1) (wr.setCell ⟨B, 39 + way * 81 + i * 9 + j, none⟩ (.bool (wars (F way) (c + 1) i j))) := by
  refine ⟨?_, grownBy_trans h.2 (grownBy_cell wr B _ _)⟩
  have := h.1.set (39 + way * 81 + i * 9 + j) (.bool (wars (F way) (c + 1) i j))
  rw [ordC_put hC _ hw hi hj, wayF_put] at this
  exact this

end Go.Proofs.Ytlgbefmgpmdolaa

/-
  The order of a plan: what leads over walls, and on from there. (Walk.)
-/
namespace Go.Proofs.Ytlgbefmgpmdolaa
open Go.RowKit

/-- where the orders of a plan lie while they are made -/
def OrSt (w : World) (Z C : Array Value) (ro : Option Addr) (L : List Wl) (F : Nat → Nat → Nat → Bool) (wr : World) : Prop :=
  HeldB wr (w.heap.size + 1) 83 Z ∧ HeldB wr (w.heap.size + 2) 83 (ordC C F) ∧ CellsAt wr ro (wlsC L) ∧ Below w.heap.size w wr ∧ w.heap.size + 3 ≤ wr.heap.size
theorem OrSt.below {w : World} {Z C : Array Value} {ro : Option Addr} {L : List Wl} {F : Nat → Nat → Nat → Bool} {wr w1 : World} (h : OrSt w Z C ro L F wr) (hb : Below wr.heap.size wr w1) : OrSt w Z C ro L F w1 :=
  ⟨h.1.below hb, h.2.1.below hb, h.2.2.1.below hb, below_step h.2.2.2.1 h.2.2.2.1.size hb, Nat.le_trans h.2.2.2.2 hb.size⟩
theorem OrSt.put {w : World} {Z C : Array Value} (hC : C.size = 39) {ro : Option Addr} {L : List Wl} {F G : Nat → Nat → Nat → Bool} {wr : World} (h : OrSt w Z C ro L F wr) (hro : ∀ x, ro = some x → x.block ≠ w.heap.size + 2) {way a b : Nat} (hw : way < 2) (ha : a < 9) (hb : b < 9)
    (hG : putLd F way a b true = G) : OrSt w Z C ro L G (wr.setCell ⟨w.heap.size + 2, 39 + way * 81 + a * 9 + b, none⟩ (.bool true)) := by
  subst hG
  have hg := grownBy_cell wr (w.heap.size + 2) (39 + way * 81 + a * 9 + b) (.bool true)
  refine ⟨h.1.other (by simp) _, ?_, h.2.2.1.grown hg (fun x hx e => hro x hx (Option.some.inj e)), h.2.2.2.1.setCell (p := ⟨w.heap.size + 2, 39 + way * 81 + a * 9 + b, none⟩) (by simp) _, Nat.le_trans h.2.2.2.2 hg.size⟩
  have := h.2.1.set (39 + way * 81 + a * 9 + b) (.bool true)
  rwa [ordC_put hC _ hw ha hb] at this

end Go.Proofs.Ytlgbefmgpmdolaa

/-
  Merged texts: OrdP OrdQ OrdX.
-/
/-
  Plain plans read, and which room leads to which. (Walks.)
-/
namespace Go.Proofs.Ytlgbefmgpmdolaa
open Go.RowKit

end Go.Proofs.Ytlgbefmgpmdolaa

/-
  The program's answers about two rooms: left, above, the kind. (Walks.)
-/
namespace Go.Proofs.Ytlgbefmgpmdolaa
open Go.RowKit

end Go.Proofs.Ytlgbefmgpmdolaa

/-
  What of two rooms of a plain list there is. (Plain mathematics.)
-/
namespace Go.Proofs.Ytlgbefmgpmdolaa

/-- leads of plans -/
def pL (p : List ByteArray) (way : Nat) : Nat → Nat → Bool := leadG p.length (wideB p) (gridR p) (gridG p) way
end Go.Proofs.Ytlgbefmgpmdolaa
