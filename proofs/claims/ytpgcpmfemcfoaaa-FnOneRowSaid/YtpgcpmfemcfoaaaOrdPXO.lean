/-
  Merged texts: OrdMG OrdIO OrdPX.
-/
import Derived.Test.YtpgcpmfemcfoaaaSpecWXO
import Derived.Test.YtpgcpmfemcfoaaaOutlO
import Derived.Test.YtpgcpmfemcfoaaaWallsO
import Derived.Test.YtpgcpmfemcfoaaaMathBO
import Derived.Test.YtpgcpmfemcfoaaaMathCEO
import Derived.Test.YtpgcpmfemcfoaaaMeetO
import Derived.Test.YtpgcpmfemcfoaaaTurnsO
import Derived.OrdersHeld
import Derived.BigRegion
import Derived.Deep.MidRow

/-
  Merged texts: OrdM OrdG OrdW.
-/
/-
  Rooms that lead to rooms: just over walls, and by way of others. (Plain mathematics.)
-/
namespace Go.Proofs.Ytpgcpmfemcfoaaa
open Go.RowKit

/-- by way of the first rooms: what comes of leading on over them, one behind the other -/
def wars (f : Nat → Nat → Bool) : Nat → Nat → Nat → Bool
  | 0, a, b => f a b
  | c + 1, a, b => wars f c a b || (wars f c a c && wars f c c b)
theorem wars_succ (f : Nat → Nat → Bool) (c a b : Nat) : wars f (c + 1) a b = (wars f c a b || (wars f c a c && wars f c c b)) := rfl
theorem wars_to (f : Nat → Nat → Bool) (c a : Nat) : wars f (c + 1) a c = wars f c a c := by
  rw [wars_succ]; cases wars f c a c <;> simp
theorem wars_from (f : Nat → Nat → Bool) (c b : Nat) : wars f (c + 1) c b = wars f c c b := by
  rw [wars_succ]; cases wars f c c b <;> simp
/-- no room out of bounds is led to -/
theorem wars_in {f : Nat → Nat → Bool} {n : Nat} (h : ∀ a b, f a b = true → a < n ∧ b < n) : ∀ c a b, wars f c a b = true → a < n ∧ b < n
  | 0, a, b, hw => h a b hw
  | c + 1, a, b, hw => by
    rw [wars_succ, Bool.or_eq_true, Bool.and_eq_true] at hw
    rcases hw with hw | ⟨h1, h2⟩
    · exact wars_in h c a b hw
    · exact ⟨(wars_in h c a c h1).1, (wars_in h c c b h2).2⟩
/-- the rooms ahead of a wall and behind it -/
def aheadL (g : Nat → Nat → Nat) (X : Wl) : List Int := compactL (cellsA g X X.long)
def behindL (g : Nat → Nat → Nat) (X : Wl) : List Int := compactL (cellsB' g X X.long)
/-- over one wall -/
def overW (g : Nat → Nat → Nat) (way : Nat) (X : Wl) (a b : Nat) : Bool := (X.way == way) && ((aheadL g X).contains (a : Int) && (behindL g X).contains (b : Int))
/-- over some walls -/
def justL (g : Nat → Nat → Nat) (way : Nat) (L : List Wl) (a b : Nat) : Bool := L.any fun X => overW g way X a b
theorem justL_snoc (g : Nat → Nat → Nat) (way : Nat) (L : List Wl) (X : Wl) (a b : Nat) : justL g way (L ++ [X]) a b = (justL g way L a b || overW g way X a b) := by
  unfold justL; rw [List.any_append]; simp
/-- over one wall, as far as the pairs have been gone through -/
def partW (g : Nat → Nat → Nat) (X : Wl) (i j : Nat) (a b : Nat) : Bool :=
  (((aheadL g X).take i).contains (a : Int) && (behindL g X).contains (b : Int)) || (decide (i < (aheadL g X).length ∧ (aheadL g X).getD i 0 = (a : Int)) && ((behindL g X).take j).contains (b : Int))

theorem contains_take {L : List Int} {i : Nat} (h : i < L.length) (a : Int) : (L.take (i + 1)).contains a = ((L.take i).contains a || decide (L.getD i 0 = a)) := by
  rw [take_snoc L i 0 h, List.contains_eq_mem, List.contains_eq_mem]
  rw [Bool.eq_iff_iff]
  simp only [decide_eq_true_eq, Bool.or_eq_true, List.mem_append, List.mem_singleton]
  constructor
  · rintro (h | h)
    · exact .inl h
    · exact .inr h.symm
  · rintro (h | h)
    · exact .inl h
    · exact .inr h.symm
theorem partW_zero (g : Nat → Nat → Nat) (X : Wl) (a b : Nat) : partW g X 0 0 a b = false := by simp [partW]
theorem partW_step {g : Nat → Nat → Nat} {X : Wl} {i j : Nat} (hi : i < (aheadL g X).length) (hj : j < (behindL g X).length) {x y : Nat} (hx : (aheadL g X).getD i 0 = (x : Int)) (hy : (behindL g X).getD j 0 = (y : Int)) (a b : Nat) :
    partW g X i (j + 1) a b = (partW g X i j a b || decide (a = x ∧ b = y)) := by
  unfold partW
  rw [contains_take hj, hx, hy]
  rw [Bool.eq_iff_iff]
  simp only [Bool.or_eq_true, Bool.and_eq_true, decide_eq_true_eq, List.contains_eq_mem]
  constructor
  · rintro (h | ⟨h1, h2 | h2⟩)
    · exact .inl (.inl h)
    · exact .inl (.inr ⟨h1, h2⟩)
    · exact .inr (by omega)
  · rintro ((h | ⟨h1, h2⟩) | h)
    · exact .inl h
    · exact .inr ⟨h1, .inl h2⟩
    · exact .inr ⟨⟨hi, by omega⟩, .inr (by omega)⟩
theorem partW_row {g : Nat → Nat → Nat} {X : Wl} {i : Nat} (hi : i < (aheadL g X).length) (a b : Nat) : partW g X (i + 1) 0 a b = partW g X i (behindL g X).length a b := by
  unfold partW
  rw [contains_take hi, List.take_zero, List.take_length]
  rw [Bool.eq_iff_iff]
  simp only [Bool.or_eq_true, Bool.and_eq_true, decide_eq_true_eq, List.contains_eq_mem, List.not_mem_nil, and_false, or_false]
  constructor
  · rintro ⟨h1 | h1, h2⟩
    · exact .inl ⟨h1, h2⟩
    · exact .inr ⟨⟨hi, h1⟩, h2⟩
  · rintro (⟨h1, h2⟩ | ⟨⟨_, h1⟩, h2⟩)
    · exact ⟨.inl h1, h2⟩
    · exact ⟨.inr h1, h2⟩
theorem partW_all {g : Nat → Nat → Nat} {X : Wl} (a b : Nat) : partW g X (aheadL g X).length 0 a b = ((aheadL g X).contains (a : Int) && (behindL g X).contains (b : Int)) := by
  unfold partW; rw [List.take_length, List.take_zero]; simp

/-- rooms of sides are rooms -/
theorem ahead_mem {g : Nat → Nat → Nat} {X : Wl} {x : Int} (h : x ∈ aheadL g X) : ∃ s, s < X.long ∧ x = ((sideA g X.way X.line (X.first + s) : Nat) : Int) := by
  have key : ∀ n x, x ∈ compactL (cellsA g X n) → ∃ s, s < n ∧ x = ((sideA g X.way X.line (X.first + s) : Nat) : Int) := fun n => by
    induction n with
    | zero => intro x h; simp [compactL, cellsA] at h
    | succ n ih =>
      intro x h
      rw [cellsA_succ, compactL_snoc] at h
      unfold putL at h
      split at h
      · obtain ⟨s, s1, s2⟩ := ih x h; exact ⟨s, by omega, s2⟩
      · rw [List.mem_append, List.mem_singleton] at h
        rcases h with h | h
        · obtain ⟨s, s1, s2⟩ := ih x h; exact ⟨s, by omega, s2⟩
        · exact ⟨n, by omega, h⟩
  exact key _ _ h
theorem behind_mem {g : Nat → Nat → Nat} {X : Wl} {x : Int} (h : x ∈ behindL g X) : ∃ s, s < X.long ∧ x = ((sideB g X.way X.line (X.first + s) : Nat) : Int) := by
  have key : ∀ n x, x ∈ compactL (cellsB' g X n) → ∃ s, s < n ∧ x = ((sideB g X.way X.line (X.first + s) : Nat) : Int) := fun n => by
    induction n with
    | zero => intro x h; simp [compactL, cellsB'] at h
    | succ n ih =>
      intro x h
      rw [cellsB_succ, compactL_snoc] at h
      unfold putL at h
      split at h
      · obtain ⟨s, s1, s2⟩ := ih x h; exact ⟨s, by omega, s2⟩
      · rw [List.mem_append, List.mem_singleton] at h
        rcases h with h | h
        · obtain ⟨s, s1, s2⟩ := ih x h; exact ⟨s, by omega, s2⟩
        · exact ⟨n, by omega, h⟩
  exact key _ _ h
theorem sides_room {h wd r : Nat} {g : Nat → Nat → Nat} (hg : ∀ i j, i < h → j < wd → g i j < r) {X : Wl} (hX : X ∈ wallsG h wd g) {s : Nat} (hs : s < X.long) : sideA g X.way X.line (X.first + s) < r ∧ sideB g X.way X.line (X.first + s) < r := by
  obtain ⟨m1, m2, m3, m4, m5, m6⟩ := wallsG_mem hX
  unfold acrossN at m3
  unfold alongN at m5
  unfold sideA sideB
  rcases (show X.way = 0 ∨ X.way = 1 by omega) with hw0 | hw0
  · rw [hw0] at m3 m5 ⊢
    simp only [if_true] at m3 m5 ⊢
    exact ⟨hg _ _ (by omega) (by omega), hg _ _ (by omega) (by omega)⟩
  · rw [hw0] at m3 m5 ⊢
    simp only [Nat.one_ne_zero, if_false] at m3 m5 ⊢
    exact ⟨hg _ _ (by omega) (by omega), hg _ _ (by omega) (by omega)⟩
theorem ahead_room {h wd r : Nat} {g : Nat → Nat → Nat} (hg : ∀ i j, i < h → j < wd → g i j < r) {X : Wl} (hX : X ∈ wallsG h wd g) {i : Nat} (hi : i < (aheadL g X).length) : ∃ x : Nat, (aheadL g X).getD i 0 = (x : Int) ∧ x < r := by
  obtain ⟨s, hs, e⟩ := ahead_mem (getD_mem 0 hi)
  exact ⟨_, e, (sides_room hg hX hs).1⟩
theorem behind_room {h wd r : Nat} {g : Nat → Nat → Nat} (hg : ∀ i j, i < h → j < wd → g i j < r) {X : Wl} (hX : X ∈ wallsG h wd g) {i : Nat} (hi : i < (behindL g X).length) : ∃ x : Nat, (behindL g X).getD i 0 = (x : Int) ∧ x < r := by
  obtain ⟨s, hs, e⟩ := behind_mem (getD_mem 0 hi)
  exact ⟨_, e, (sides_room hg hX hs).2⟩
theorem sides_few {h wd : Nat} {g : Nat → Nat → Nat} (hh : h ≤ 6) (hw : wd ≤ 6) {X : Wl} (hX : X ∈ wallsG h wd g) : (aheadL g X).length ≤ 6 ∧ (behindL g X).length ≤ 6 := by
  obtain ⟨m1, m2, m3, m4, m5, m6⟩ := wallsG_mem hX
  have k1 := compactL_len (cellsA g X X.long)
  have k2 := compactL_len (cellsB' g X X.long)
  have k3 : alongN h wd X.way ≤ 6 := by unfold alongN; split <;> omega
  rw [cellsA_len] at k1
  rw [cellsB_len] at k2
  unfold aheadL behindL
  omega

/-- the rooms to which a room leads just over walls, and in the end -/
def justG (h wd : Nat) (g : Nat → Nat → Nat) (way : Nat) : Nat → Nat → Bool := justL g way (wallsG h wd g)
def leadG (h wd r : Nat) (g : Nat → Nat → Nat) (way : Nat) : Nat → Nat → Bool := wars (justG h wd g way) r
theorem justL_in {h wd r : Nat} {g : Nat → Nat → Nat} (hg : ∀ i j, i < h → j < wd → g i j < r) (way : Nat) {L : List Wl} (hL : ∀ X ∈ L, X ∈ wallsG h wd g) : ∀ a b, justL g way L a b = true → a < r ∧ b < r := fun a b h => by
  unfold justL at h
  obtain ⟨X, hX, ho⟩ := List.any_eq_true.1 h
  unfold overW at ho
  rw [Bool.and_eq_true, Bool.and_eq_true, List.contains_eq_mem, List.contains_eq_mem, decide_eq_true_eq, decide_eq_true_eq] at ho
  obtain ⟨s, hs, e⟩ := ahead_mem ho.2.1
  obtain ⟨t, ht, e2⟩ := behind_mem ho.2.2
  have h1 := (sides_room hg (hL X hX) hs).1
  have h2 := (sides_room hg (hL X hX) ht).2
  omega
theorem justG_in {h wd r : Nat} {g : Nat → Nat → Nat} (hg : ∀ i j, i < h → j < wd → g i j < r) (way : Nat) : ∀ a b, justG h wd g way a b = true → a < r ∧ b < r := justL_in hg way (fun _ h => h)

/-- what is told once the first walls are gone through, and of the next one the first pairs -/
def accF (g : Nat → Nat → Nat) (L : List Wl) (X : Wl) (i j : Nat) : Nat → Nat → Nat → Bool := fun way a b => justL g way L a b || ((X.way == way) && partW g X i j a b)
theorem accF_zero (g : Nat → Nat → Nat) (L : List Wl) (X : Wl) : accF g L X 0 0 = fun way => justL g way L := by
  funext way a b; unfold accF; rw [partW_zero]; simp
theorem accF_row {g : Nat → Nat → Nat} {X : Wl} {i : Nat} (L : List Wl) (hi : i < (aheadL g X).length) : accF g L X i (behindL g X).length = accF g L X (i + 1) 0 := by
  funext way a b; unfold accF; rw [partW_row hi]
theorem accF_all (g : Nat → Nat → Nat) (L : List Wl) (X : Wl) : accF g L X (aheadL g X).length 0 = fun way => justL g way (L ++ [X]) := by
  funext way a b; unfold accF; rw [partW_all, justL_snoc]; rfl
theorem accF_put {g : Nat → Nat → Nat} {X : Wl} {i j : Nat} (L : List Wl) (hi : i < (aheadL g X).length) (hj : j < (behindL g X).length) {x y : Nat} (hx : (aheadL g X).getD i 0 = (x : Int)) (hy : (behindL g X).getD j 0 = (y : Int)) :
    (fun w a b => if w = X.way ∧ a = x ∧ b = y then true else accF g L X i j w a b) = accF g L X i (j + 1) := by
  funext w a b
  unfold accF
  rw [partW_step hi hj hx hy]
  by_cases h1 : X.way = w
  · subst h1
    simp only [BEq.rfl, Bool.true_and, true_and]
    by_cases h2 : a = x ∧ b = y
    · rw [if_pos h2, decide_eq_true h2]; simp
    · rw [if_neg h2, decide_eq_false h2, Bool.or_false]
  · rw [if_neg (fun e => h1 e.1.symm), beq_false_of_ne h1]; rfl
end Go.Proofs.Ytpgcpmfemcfoaaa

/-
  Rooms left of rooms and above them, on a grid: each two rooms of a plain one are in just one order. (Plain mathematics.)
-/
namespace Go.Proofs.Ytpgcpmfemcfoaaa

/-- just left: a line between two columns that parts rooms throughout has one room on its left and the other one on its right -/
def JL (h wd : Nat) (g : Nat → Nat → Nat) (a b : Nat) : Prop :=
  ∃ k s t, 1 ≤ k ∧ k < wd ∧ s < h ∧ t < h ∧ (∀ i, (s ≤ i ∧ i ≤ t) ∨ (t ≤ i ∧ i ≤ s) → g i (k - 1) ≠ g i k) ∧ g s (k - 1) = a ∧ g t k = b
/-- just above, likewise -/
def JA (h wd : Nat) (g : Nat → Nat → Nat) (a b : Nat) : Prop :=
  ∃ k s t, 1 ≤ k ∧ k < h ∧ s < wd ∧ t < wd ∧ (∀ j, (s ≤ j ∧ j ≤ t) ∨ (t ≤ j ∧ j ≤ s) → g (k - 1) j ≠ g k j) ∧ g (k - 1) s = a ∧ g k t = b
/-- left, above -/
def LL (h wd : Nat) (g : Nat → Nat → Nat) : Nat → Nat → Prop := Relation.TransGen (JL h wd g)
def AA (h wd : Nat) (g : Nat → Nat → Nat) : Nat → Nat → Prop := Relation.TransGen (JA h wd g)
/-- no cross -/
def NoX (h wd : Nat) (g : Nat → Nat → Nat) : Prop := ∀ i k, 1 ≤ i → i < h → 1 ≤ k → k < wd → ¬ (g (i - 1) (k - 1) ≠ g (i - 1) k ∧ g i (k - 1) ≠ g i k ∧ g (i - 1) (k - 1) ≠ g i (k - 1) ∧ g (i - 1) k ≠ g i k)

/-- the cells of a room lie all between any two of them -/
theorem rect_in {h wd : Nat} {g : Nat → Nat → Nat} (hr : RectG h wd g) {i j i' j' z : Nat} (hi : i < h) (hj : j < wd) (hi' : i' < h) (hj' : j' < wd) (e : g i j = z) (e' : g i' j' = z)
    {x y : Nat} (hx : i ≤ x ∧ x ≤ i' ∨ i' ≤ x ∧ x ≤ i) (hy : j ≤ y ∧ y ≤ j' ∨ j' ≤ y ∧ y ≤ j) : g x y = z := by
  subst e
  obtain ⟨r, c, a, b, _, _, hin⟩ := hr i j hi hj
  have h1 := (hin i j hi hj).1 rfl
  have h2 := (hin i' j' hi' hj').1 e'
  unfold InR at h1 h2
  exact (hin x y (by omega) (by omega)).2 (by unfold InR; omega)

theorem rect_two {h wd : Nat} {g : Nat → Nat → Nat} (hr : RectG h wd g) {i j i' j' : Nat} (hi : i < h) (hj : j < wd) (hi' : i' < h) (hj' : j' < wd) (he : g i' j' = g i j) : g i j' = g i j ∧ g i' j = g i j :=
  ⟨rect_in hr hi hj hi' hj' rfl he (by omega) (by omega), rect_in hr hi hj hi' hj' rfl he (by omega) (by omega)⟩

/-- rooms of a column, rooms of a row -/
theorem col_chain {h wd : Nat} {g : Nat → Nat → Nat} {j i : Nat} (hj : j < wd) : ∀ n, i + n < h → g i j = g (i + n) j ∨ AA h wd g (g i j) (g (i + n) j)
  | 0, _ => .inl rfl
  | n + 1, hn => by
    have ih := col_chain (h := h) (g := g) (i := i) hj n (by omega)
    by_cases he : g (i + n) j = g (i + (n + 1)) j
    · rw [← he]; exact ih
    · have hs : JA h wd g (g (i + n) j) (g (i + (n + 1)) j) := ⟨i + (n + 1), j, j, by omega, hn, hj, hj, fun y hy => by
        obtain rfl : y = j := by omega
        exact he, rfl, rfl⟩
      rcases ih with e | e
      · rw [e]; exact .inr (.single hs)
      · exact .inr (.tail e hs)
theorem row_chain {h wd : Nat} {g : Nat → Nat → Nat} {i j : Nat} (hi : i < h) : ∀ n, j + n < wd → g i j = g i (j + n) ∨ LL h wd g (g i j) (g i (j + n))
  | 0, _ => .inl rfl
  | n + 1, hn => by
    have ih := row_chain (wd := wd) (g := g) (j := j) hi n (by omega)
    by_cases he : g i (j + n) = g i (j + (n + 1))
    · rw [← he]; exact ih
    · have hs : JL h wd g (g i (j + n)) (g i (j + (n + 1))) := ⟨j + (n + 1), i, i, by omega, hn, hi, hi, fun y hy => by
        obtain rfl : y = i := by omega
        exact he, rfl, rfl⟩
      rcases ih with e | e
      · rw [e]; exact .inr (.single hs)
      · exact .inr (.tail e hs)
theorem col_le {h wd : Nat} {g : Nat → Nat → Nat} {j i i' : Nat} (hj : j < wd) (hi : i ≤ i') (h2 : i' < h) : g i j = g i' j ∨ AA h wd g (g i j) (g i' j) := by
  have := col_chain (h := h) (g := g) (i := i) hj (i' - i) (by omega)
  rwa [show i + (i' - i) = i' by omega] at this
theorem row_le {h wd : Nat} {g : Nat → Nat → Nat} {i j j' : Nat} (hi : i < h) (hj : j ≤ j') (h2 : j' < wd) : g i j = g i j' ∨ LL h wd g (g i j) (g i j') := by
  have := row_chain (wd := wd) (g := g) (j := j) hi (j' - j) (by omega)
  rwa [show j + (j' - j) = j' by omega] at this

/-- the way down from a room's lower right corner: along level lines as far as they go, then down along upright ones -/
def stair (h : Nat) (g : Nat → Nat → Nat) (r c : Nat) : Nat → Nat
  | 0 => r
  | t + 1 => if h ≤ stair h g r c t then stair h g r c t else if g (stair h g r c t - 1) (c + t) ≠ g (stair h g r c t) (c + t) then stair h g r c t
    else stair h g r c t + runFrom (upF h g (c + t)) h (stair h g r c t)
/-- how far down it is at a column -/
def stH (h : Nat) (g : Nat → Nat → Nat) (r c j : Nat) : Nat := stair h g r c (j + 1 - c)

theorem stH_low {h : Nat} {g : Nat → Nat → Nat} {r c j : Nat} (hj : j < c) : stH h g r c j = r := by
  unfold stH; rw [show j + 1 - c = 0 by omega]; rfl
/-- one step of it -/
theorem stH_step {h : Nat} {g : Nat → Nat → Nat} {r c j : Nat} (hj : c ≤ j + 1) (hle : stH h g r c j ≤ h) :
    (stH h g r c (j + 1) = stH h g r c j ∧ (stH h g r c j = h ∨ stH h g r c j < h ∧ g (stH h g r c j - 1) (j + 1) ≠ g (stH h g r c j) (j + 1))) ∨
    (stH h g r c j < h ∧ g (stH h g r c j - 1) (j + 1) = g (stH h g r c j) (j + 1) ∧ stH h g r c j ≤ stH h g r c (j + 1) ∧ stH h g r c (j + 1) ≤ h ∧
      (∀ i, stH h g r c j ≤ i → i < stH h g r c (j + 1) → g i j ≠ g i (j + 1)) ∧ (stH h g r c (j + 1) < h → g (stH h g r c (j + 1)) j = g (stH h g r c (j + 1)) (j + 1))) := by
  have e1 : stH h g r c (j + 1) = stair h g r c ((j + 1 - c) + 1) := by unfold stH; rw [show j + 1 + 1 - c = (j + 1 - c) + 1 by omega]
  have e2 : stair h g r c (j + 1 - c) = stH h g r c j := rfl
  rw [e1, stair, e2, show c + (j + 1 - c) = j + 1 by omega]
  generalize stH h g r c j = e at hle ⊢
  by_cases h1 : h ≤ e
  · rw [if_pos h1]; exact .inl ⟨rfl, .inl (by omega)⟩
  · rw [if_neg h1]
    by_cases h2 : g (e - 1) (j + 1) ≠ g e (j + 1)
    · rw [if_pos h2]; exact .inl ⟨rfl, .inr ⟨by omega, h2⟩⟩
    · rw [if_neg h2]
      have hl := runFrom_le (upF h g (j + 1)) h e
      refine .inr ⟨by omega, Classical.not_not.1 h2, by omega, by omega, fun i i1 i2 => ?_, fun hs => ?_⟩
      · have := runFrom_all i1 i2
        unfold upF at this
        simp only [Bool.and_eq_true, decide_eq_true_eq, Nat.add_sub_cancel] at this
        exact this.2
      · have := runFrom_stop (f := upF h g (j + 1)) (by omega) hs
        unfold upF at this
        simp only [Bool.and_eq_false_iff, decide_eq_false_iff_not, Nat.add_sub_cancel] at this
        rcases this with h' | h'
        · exact absurd hs h'
        · exact Classical.not_not.1 h'

/-- what is known of a room and its lower right corner -/
structure Corner (h wd : Nat) (g : Nat → Nat → Nat) (a r c : Nat) : Prop where
  rect : RectG h wd g
  r1 : 1 ≤ r
  rh : r ≤ h
  c1 : 1 ≤ c
  cw : c ≤ wd
  at_ : g (r - 1) (c - 1) = a
  low : r < h → g r (c - 1) ≠ a
  end_ : c < wd → g (r - 1) c ≠ a

section
variable {h wd : Nat} {g : Nat → Nat → Nat} {a r c : Nat}

/-- below the way, rooms part -/
theorem Corner.inv (C : Corner h wd g a r c) : ∀ j, c ≤ j + 1 → j < wd → r ≤ stH h g r c j ∧ stH h g r c j ≤ h ∧ (stH h g r c j < h → g (stH h g r c j - 1) j ≠ g (stH h g r c j) j) := by
  have base : r ≤ stH h g r c (c - 1) ∧ stH h g r c (c - 1) ≤ h ∧ (stH h g r c (c - 1) < h → g (stH h g r c (c - 1) - 1) (c - 1) ≠ g (stH h g r c (c - 1)) (c - 1)) := by
    have := C.c1
    rw [stH_low (by omega)]
    exact ⟨Nat.le_refl _, C.rh, fun hl => by rw [C.at_]; exact fun e => C.low hl e.symm⟩
  intro j
  induction j with
  | zero =>
    intro h1 h2
    have := C.c1
    rwa [show c - 1 = 0 by omega] at base
  | succ j ih =>
    intro h1 h2
    by_cases hc : c ≤ j + 1
    · obtain ⟨i1, i2, i3⟩ := ih hc (by omega)
      rcases stH_step (g := g) hc i2 with ⟨e, hs⟩ | ⟨s1, s2, s3, s4, s5, s6⟩
      · rw [e]
        refine ⟨i1, i2, fun hl => ?_⟩
        rcases hs with hs | hs
        · omega
        · exact hs.2
      · refine ⟨by omega, s4, fun hl => ?_⟩
        have e6 := s6 hl
        generalize stH h g r c (j + 1) = E at *
        generalize stH h g r c j = e at *
        have r1 := C.r1
        have hup : g (E - 1) j ≠ g (E - 1) (j + 1) := by
          by_cases he : e < E
          · exact s5 (E - 1) (by omega) (by omega)
          · obtain rfl : E = e := by omega
            intro heq
            exact i3 s1 (by rw [heq, s2, e6])
        intro heq
        have := rect_two C.rect (i := E - 1) (j := j + 1) (i' := E) (j' := j) (by omega) h2 hl (by omega) (by rw [e6, heq])
        exact hup this.1
    · obtain rfl : c = j + 1 + 1 := by omega
      simpa using base
theorem Corner.mono (C : Corner h wd g a r c) {j : Nat} : ∀ n, j + n < wd → stH h g r c j ≤ stH h g r c (j + n)
  | 0, _ => Nat.le_refl _
  | n + 1, hn => by
    have ih := C.mono (j := j) n (by omega)
    refine Nat.le_trans ih ?_
    by_cases hc : c ≤ j + n + 1
    · obtain ⟨i1, i2, i3⟩ := C.inv (j + n) hc (by omega)
      rcases stH_step (g := g) hc i2 with ⟨e, _⟩ | ⟨_, _, s3, _⟩
      · exact Nat.le_of_eq e.symm
      · exact s3
    · rw [stH_low (by omega), show j + (n + 1) = (j + n) + 1 by omega, stH_low (by omega)]; exact Nat.le_refl _
theorem Corner.le (C : Corner h wd g a r c) {j k : Nat} (hj : j ≤ k) (hk : k < wd) : stH h g r c j ≤ stH h g r c k := by
  have := C.mono (j := j) (k - j) (by omega)
  rwa [show j + (k - j) = k by omega] at this
/-- a row that the way goes down by: where it does -/
theorem Corner.cross (C : Corner h wd g a r c) {j q : Nat} : ∀ n, j + n < wd → stH h g r c j ≤ q → q < stH h g r c (j + n) → ∃ x, j ≤ x ∧ x < j + n ∧ stH h g r c x ≤ q ∧ q < stH h g r c (x + 1)
  | 0, _, h1, h2 => by rw [Nat.add_zero] at h2; omega
  | n + 1, hn, h1, h2 => by
    by_cases hq : q < stH h g r c (j + n)
    · obtain ⟨x, x1, x2, x3⟩ := C.cross n (by omega) h1 hq
      exact ⟨x, x1, by omega, x3⟩
    · exact ⟨j + n, by omega, by omega, by omega, h2⟩
theorem Corner.crossing (C : Corner h wd g a r c) {j k q : Nat} (hk : k < wd) (h1 : stH h g r c j ≤ q) (h2 : q < stH h g r c k) (hjk : j ≤ k) : ∃ x, j ≤ x ∧ x < k ∧ c ≤ x + 1 ∧ stH h g r c x ≤ q ∧ q < stH h g r c (x + 1) := by
  obtain ⟨x, x1, x2, x3, x4⟩ := C.cross (j := j) (k - j) (by omega) h1 (by rwa [show j + (k - j) = k by omega])
  refine ⟨x, x1, by omega, ?_, x3, x4⟩
  rcases Nat.lt_or_ge (x + 1) c with hc | hc
  · rw [stH_low (by omega)] at x3 x4; omega
  · exact hc
/-- at a row at which the way goes down, rooms part -/
theorem Corner.down (C : Corner h wd g a r c) {x : Nat} (hc : c ≤ x + 1) (hx : x + 1 < wd) (hlt : stH h g r c x < stH h g r c (x + 1)) :
    (∀ i, stH h g r c x - 1 ≤ i → i < stH h g r c (x + 1) → g i x ≠ g i (x + 1)) ∧ stH h g r c x < h ∧ stH h g r c (x + 1) ≤ h ∧ g (stH h g r c x - 1) (x + 1) = g (stH h g r c x) (x + 1) ∧
    (stH h g r c (x + 1) < h → g (stH h g r c (x + 1)) x = g (stH h g r c (x + 1)) (x + 1)) := by
  obtain ⟨i1, i2, i3⟩ := C.inv x hc (by omega)
  rcases stH_step (g := g) hc i2 with ⟨e, _⟩ | ⟨s1, s2, s3, s4, s5, s6⟩
  · omega
  · refine ⟨fun i a1 a2 => ?_, s1, s4, s2, s6⟩
    by_cases hi : stH h g r c x ≤ i
    · exact s5 i hi a2
    · have r1 := C.r1
      obtain rfl : i = stH h g r c x - 1 := by omega
      intro heq
      have h3 := i3 s1
      have := rect_two C.rect (i := stH h g r c x - 1) (j := x) (i' := stH h g r c x) (j' := x + 1) (by omega) (by omega) s1 hx (by rw [heq, s2])
      exact h3 this.2.symm

/-- above the way, and below it -/
def AbW (h wd : Nat) (g : Nat → Nat → Nat) (r c z : Nat) : Prop := ∀ i j, i < h → j < wd → g i j = z → c ≤ j ∧ i < stH h g r c j
def BeW (h wd : Nat) (g : Nat → Nat → Nat) (r c z : Nat) : Prop := ∀ i j, i < h → j < wd → g i j = z → stH h g r c j ≤ i

/-- along a row of a room, the way stays on one side -/
theorem Corner.row (C : Corner h wd g a r c) {i j : Nat} (hi : i < h) : ∀ n, j + n < wd → (∀ y, j ≤ y → y ≤ j + n → g i y = g i j) → (i < stH h g r c j ↔ i < stH h g r c (j + n))
  | 0, _, _ => Iff.rfl
  | n + 1, hn, he => by
    have ih := C.row hi n (by omega) (fun y a1 a2 => he y a1 (by omega))
    rw [ih]
    refine ⟨fun hl => Nat.lt_of_lt_of_le hl (C.le (by omega) hn), fun hl => ?_⟩
    rcases Nat.lt_or_ge i (stH h g r c (j + n)) with h' | h'
    · exact h'
    · exfalso
      have hlt : stH h g r c (j + n) < stH h g r c (j + n + 1) := Nat.lt_of_le_of_lt h' hl
      have hc : c ≤ j + n + 1 := by
        rcases Nat.lt_or_ge (j + n + 1) c with hc | hc
        · rw [stH_low (by omega), stH_low (by omega)] at hlt; omega
        · exact hc
      exact (C.down hc hn hlt).1 i (by omega) hl (by rw [he (j + n) (by omega) (by omega), he (j + n + 1) (by omega) (by omega)])
theorem Corner.rowTwo (C : Corner h wd g a r c) {i j k z : Nat} (hi : i < h) (hj : j < wd) (hk : k < wd) (e1 : g i j = z) (e2 : g i k = z) : i < stH h g r c j ↔ i < stH h g r c k := by
  rcases Nat.le_total j k with hjk | hjk
  · have := C.row (j := j) hi (k - j) (by omega) (fun y a1 a2 => by rw [e1]; exact rect_in C.rect hi hj hi hk e1 e2 (by omega) (by omega))
    rwa [show j + (k - j) = k by omega] at this
  · have := C.row (j := k) hi (j - k) (by omega) (fun y a1 a2 => by rw [e2]; exact rect_in C.rect hi hj hi hk e1 e2 (by omega) (by omega))
    rw [show k + (j - k) = j by omega] at this
    exact this.symm

theorem Corner.left_one (C : Corner h wd g a r c) (nx : NoX h wd g) {x z : Nat} (hx : x = a ∨ AbW h wd g r c x) (hj : JL h wd g x z) : AbW h wd g r c z := by
  obtain ⟨k, s, t, k1, kw, sh, th, hp, es, et⟩ := hj
  have c1 := C.c1
  have r1 := C.r1
  -- the line is not ahead of the room's end, and the room above it is above the way
  have hk : c ≤ k ∧ s < stH h g r c (k - 1) := by
    rcases hx with rfl | hx
    · have hkc : ¬ k < c := fun hl => by
        have := rect_in C.rect (i := s) (j := k - 1) (i' := r - 1) (j' := c - 1) sh (by omega) (by have := C.rh; omega) (by have := C.cw; omega) es C.at_ (x := s) (y := k) (by omega) (by omega)
        exact hp s (by omega) (by rw [es, this])
      have hke : ¬ c < k := fun hl => by
        have := rect_in C.rect (i := s) (j := k - 1) (i' := r - 1) (j' := c - 1) sh (by omega) (by have := C.rh; omega) (by have := C.cw; omega) es C.at_ (x := r - 1) (y := c) (by omega) (by omega)
        exact C.end_ (by omega) this
      obtain rfl : k = c := by omega
      refine ⟨Nat.le_refl _, ?_⟩
      rw [stH_low (by omega)]
      rcases Nat.lt_or_ge s r with hs | hs
      · exact hs
      · have := rect_in C.rect (i := s) (j := k - 1) (i' := r - 1) (j' := k - 1) sh (by omega) (by have := C.rh; omega) (by omega) es C.at_ (x := r) (y := k - 1) (by omega) (by omega)
        exact absurd this (C.low (by omega))
    · have := hx s (k - 1) sh (by omega) es
      exact ⟨by omega, this.2⟩
  obtain ⟨hck, hs⟩ := hk
  -- all of the other one is behind the line
  have hz : ∀ i j, i < h → j < wd → g i j = z → k ≤ j := fun i j hi hj e => by
    rcases Nat.lt_or_ge j k with hl | hl
    · have := rect_in C.rect (i := i) (j := j) (i' := t) (j' := k) hi hj th kw e et (x := t) (y := k - 1) (by omega) (by omega)
      exact absurd (by rw [this, et]) (hp t (by omega))
    · exact hl
  have ht : t < stH h g r c k := by
    rcases Nat.lt_or_ge t (stH h g r c k) with hl | hl
    · exact hl
    · exfalso
      obtain ⟨i1, i2, i3⟩ := C.inv (k - 1) (by omega) (by omega)
      have hkk : k - 1 + 1 = k := by omega
      have hm := C.le (j := k - 1) (k := k) (by omega) kw
      by_cases hlt : stH h g r c (k - 1) < stH h g r c k
      · have hd := C.down (x := k - 1) (by omega) (by omega) (by rw [hkk]; exact hlt)
        rw [hkk] at hd
        exact hp (stH h g r c k) (by omega) (hd.2.2.2.2 (by omega))
      · have he : stH h g r c k = stH h g r c (k - 1) := by omega
        rcases stH_step (g := g) (j := k - 1) (by omega) i2 with ⟨_, hs2⟩ | ⟨s1, s2, s3, s4, s5, s6⟩
        · rw [hkk] at hs2
          rcases hs2 with hs2 | hs2
          · omega
          · generalize stH h g r c (k - 1) = e at *
            exact nx e k (by omega) (by omega) k1 kw ⟨hp (e - 1) (by omega), hp e (by omega), i3 hs2.1, hs2.2⟩
        · rw [hkk] at s6
          exact hp (stH h g r c k) (by omega) (s6 (by omega))
  intro i j hi hj e
  have hj2 := hz i j hi hj e
  refine ⟨by omega, ?_⟩
  have h1 := rect_in C.rect (i := i) (j := j) (i' := t) (j' := k) hi hj th kw e et (x := t) (y := j) (by omega) (by omega)
  have h2 := (C.rowTwo th kw hj et h1).1 ht
  rcases Nat.lt_or_ge i (stH h g r c j) with hl | hl
  · exact hl
  · exfalso
    obtain ⟨i1, i2, i3⟩ := C.inv j (by omega) hj
    have q1 := rect_in C.rect hi hj th hj e h1 (x := stH h g r c j) (y := j) (by omega) (by omega)
    have q2 := rect_in C.rect hi hj th hj e h1 (x := stH h g r c j - 1) (y := j) (by omega) (by omega)
    exact i3 (by omega) (by rw [q1, q2])

theorem Corner.above_one (C : Corner h wd g a r c) (nx : NoX h wd g) {y z : Nat} (hy : y = a ∨ BeW h wd g r c y ∧ (∀ i j, i < h → j < wd → g i j = y → r ≤ i)) (hj : JA h wd g y z) : BeW h wd g r c z ∧ (∀ i j, i < h → j < wd → g i j = z → r ≤ i) := by
  obtain ⟨k, s, t, k1, kh, sw, tw, hp, es, et⟩ := hj
  have c1 := C.c1
  have r1 := C.r1
  have hk : r ≤ k ∧ stH h g r c s ≤ k := by
    rcases hy with rfl | ⟨hy, hy2⟩
    · have hkr : ¬ k < r := fun hl => by
        have := rect_in C.rect (i := k - 1) (j := s) (i' := r - 1) (j' := c - 1) (by omega) sw (by have := C.rh; omega) (by have := C.cw; omega) es C.at_ (x := k) (y := s) (by omega) (by omega)
        exact hp s (by omega) (by rw [es, this])
      have hke : ¬ r < k := fun hl => by
        have := rect_in C.rect (i := k - 1) (j := s) (i' := r - 1) (j' := c - 1) (by omega) sw (by have := C.rh; omega) (by have := C.cw; omega) es C.at_ (x := r) (y := c - 1) (by omega) (by omega)
        exact C.low (by omega) this
      obtain rfl : k = r := by omega
      refine ⟨Nat.le_refl _, ?_⟩
      rcases Nat.lt_or_ge s c with hs | hs
      · rw [stH_low hs]; exact Nat.le_refl _
      · have := rect_in C.rect (i := k - 1) (j := s) (i' := k - 1) (j' := c - 1) (by omega) sw (by omega) (by omega) es C.at_ (x := k - 1) (y := c) (by omega) (by omega)
        exact absurd this (C.end_ (by omega))
    · have h1 := hy (k - 1) s (by omega) sw es
      have h2 := hy2 (k - 1) s (by omega) sw es
      omega
  obtain ⟨hrk, hs⟩ := hk
  have hz : ∀ i j, i < h → j < wd → g i j = z → k ≤ i := fun i j hi hj e => by
    rcases Nat.lt_or_ge i k with hl | hl
    · have := rect_in C.rect (i := i) (j := j) (i' := k) (j' := t) hi hj kh tw e et (x := k - 1) (y := t) (by omega) (by omega)
      exact absurd (by rw [this, et]) (hp t (by omega))
    · exact hl
  have ht : stH h g r c t ≤ k := by
    rcases Nat.lt_or_ge k (stH h g r c t) with hl | hl
    · exfalso
      have hst : s ≤ t := by
        rcases Nat.le_total s t with h' | h'
        · exact h'
        · have := C.le h' sw; omega
      obtain ⟨x, x1, x2, x3, x4, x5⟩ := C.crossing tw hs hl hst
      obtain ⟨d1, d2, d3, d4, d5⟩ := C.down x3 (by omega) (by omega)
      have p1 := hp x (by omega)
      have p2 := hp (x + 1) (by omega)
      rcases Nat.lt_or_ge (stH h g r c x) k with hl2 | hl2
      · have := nx k (x + 1) (by omega) kh (by omega) (by omega)
        rw [Nat.add_sub_cancel] at this
        exact this ⟨d1 (k - 1) (by omega) (by omega), d1 k (by omega) x5, p1, p2⟩
      · obtain he : stH h g r c x = k := by omega
        rw [he] at d4
        exact p2 d4
    · exact hl
  refine ⟨fun i j hi hj e => ?_, fun i j hi hj e => Nat.le_trans hrk (hz i j hi hj e)⟩
  have hi2 := hz i j hi hj e
  have h1 := rect_in C.rect (i := i) (j := j) (i' := k) (j' := t) hi hj kh tw e et (x := k) (y := j) (by omega) (by omega)
  have h2 := C.rowTwo kh tw hj et h1
  omega

theorem Corner.left (C : Corner h wd g a r c) (nx : NoX h wd g) {b : Nat} (hl : LL h wd g a b) : AbW h wd g r c b := by
  unfold LL at hl
  induction hl with
  | single hs => exact C.left_one nx (.inl rfl) hs
  | tail _ hs ih => exact C.left_one nx (.inr ih) hs
theorem Corner.above (C : Corner h wd g a r c) (nx : NoX h wd g) {b : Nat} (hl : AA h wd g a b) : BeW h wd g r c b ∧ (∀ i j, i < h → j < wd → g i j = b → r ≤ i) := by
  unfold AA at hl
  induction hl with
  | single hs => exact C.above_one nx (.inl rfl) hs
  | tail _ hs ih => exact C.above_one nx (.inr ih) hs

/-- the rooms right above the way: the room leads to them -/
theorem Corner.lead_left (C : Corner h wd g a r c) : ∀ n, c - 1 + n < wd → a = g (stH h g r c (c - 1 + n) - 1) (c - 1 + n) ∨ LL h wd g a (g (stH h g r c (c - 1 + n) - 1) (c - 1 + n))
  | 0, _ => by
    have := C.c1
    rw [Nat.add_zero, stH_low (by omega)]
    exact .inl C.at_.symm
  | n + 1, hn => by
    have c1 := C.c1
    have r1 := C.r1
    have ih := C.lead_left n (by omega)
    obtain ⟨i1, i2, i3⟩ := C.inv (c - 1 + n) (by omega) (by omega)
    have hm := C.le (j := c - 1 + n) (k := c - 1 + n + 1) (by omega) hn
    have key : g (stH h g r c (c - 1 + n) - 1) (c - 1 + n) = g (stH h g r c (c - 1 + n + 1) - 1) (c - 1 + n + 1) ∨ LL h wd g (g (stH h g r c (c - 1 + n) - 1) (c - 1 + n)) (g (stH h g r c (c - 1 + n + 1) - 1) (c - 1 + n + 1)) := by
      by_cases hlt : stH h g r c (c - 1 + n) < stH h g r c (c - 1 + n + 1)
      · obtain ⟨d1, d2, d3, d4, d5⟩ := C.down (x := c - 1 + n) (by omega) hn hlt
        refine .inr (.single ⟨c - 1 + n + 1, stH h g r c (c - 1 + n) - 1, stH h g r c (c - 1 + n + 1) - 1, by omega, hn, by omega, by omega, fun i hi => ?_, rfl, rfl⟩)
        exact d1 i (by omega) (by omega)
      · have he : stH h g r c (c - 1 + n + 1) = stH h g r c (c - 1 + n) := by omega
        rw [he]
        exact row_le (by omega) (by omega) hn
    show a = g (stH h g r c (c - 1 + n + 1) - 1) (c - 1 + n + 1) ∨ LL h wd g a (g (stH h g r c (c - 1 + n + 1) - 1) (c - 1 + n + 1))
    rcases ih with e | e
    · rcases key with k | k
      · exact .inl (e.trans k)
      · rw [← e] at k; exact .inr k
    · rcases key with k | k
      · rw [k] at e; exact .inr e
      · exact .inr (Relation.TransGen.trans e k)
/-- the rooms right below the way: the room is above them -/
theorem Corner.lead_above (C : Corner h wd g a r c) : ∀ n, c - 1 + n < wd → stH h g r c (c - 1 + n) < h →
    ∃ k, k ≤ c - 1 + n ∧ (∀ j, k ≤ j → j ≤ c - 1 + n → g (stH h g r c (c - 1 + n) - 1) j ≠ g (stH h g r c (c - 1 + n)) j) ∧ (a = g (stH h g r c (c - 1 + n) - 1) k ∨ AA h wd g a (g (stH h g r c (c - 1 + n) - 1) k))
  | 0, hw, hl => by
    have := C.c1
    refine ⟨c - 1, by omega, fun j j1 j2 => ?_, ?_⟩
    · obtain rfl : j = c - 1 := by omega
      exact (C.inv (c - 1) (by omega) hw).2.2 hl
    · rw [Nat.add_zero, stH_low (by omega)]; exact .inl C.at_.symm
  | n + 1, hn, hl => by
    have c1 := C.c1
    have r1 := C.r1
    have hl2 : stH h g r c (c - 1 + n + 1) < h := hl
    show ∃ k, k ≤ c - 1 + n + 1 ∧ (∀ j, k ≤ j → j ≤ c - 1 + n + 1 → g (stH h g r c (c - 1 + n + 1) - 1) j ≠ g (stH h g r c (c - 1 + n + 1)) j) ∧ (a = g (stH h g r c (c - 1 + n + 1) - 1) k ∨ AA h wd g a (g (stH h g r c (c - 1 + n + 1) - 1) k))
    have hm := C.le (j := c - 1 + n) (k := c - 1 + n + 1) (by omega) hn
    obtain ⟨k, k1, k2, k3⟩ := C.lead_above n (by omega) (by omega)
    obtain ⟨i1, i2, i3⟩ := C.inv (c - 1 + n + 1) (by omega) hn
    by_cases hlt : stH h g r c (c - 1 + n) < stH h g r c (c - 1 + n + 1)
    · obtain ⟨d1, d2, d3, d4, d5⟩ := C.down (x := c - 1 + n) (by omega) hn hlt
      have e5 := d5 hl2
      have v2 := i3 hl2
      have i0 := (C.inv (c - 1 + n) (by omega) (by omega)).1
      generalize hE : stH h g r c (c - 1 + n + 1) = E at *
      generalize he : stH h g r c (c - 1 + n) = e at *
      have u := d1 (E - 1) (by omega) (by omega)
      have v1 : g (E - 1) (c - 1 + n) ≠ g E (c - 1 + n) := fun heq => by
        have := rect_two C.rect (i := E - 1) (j := c - 1 + n) (i' := E) (j' := c - 1 + n + 1) (by omega) (by omega) hl2 hn (by rw [← e5, heq])
        exact u this.1.symm
      refine ⟨c - 1 + n, by omega, fun j j1 j2 => ?_, ?_⟩
      · rcases (show j = c - 1 + n ∨ j = c - 1 + n + 1 by omega) with rfl | rfl
        · exact v1
        · exact v2
      · have hA : AA h wd g a (g e (c - 1 + n)) := by
          have hs : JA h wd g (g (e - 1) k) (g e (c - 1 + n)) := ⟨e, k, c - 1 + n, by omega, by omega, by omega, by omega, fun j hj => k2 j (by omega) (by omega), rfl, rfl⟩
          rcases k3 with k3 | k3
          · rw [← k3] at hs; exact .single hs
          · exact .tail k3 hs
        rcases col_le (g := g) (wd := wd) (j := c - 1 + n) (i := e) (i' := E - 1) (h := h) (by omega) (by omega) (by omega) with q | q
        · rw [q] at hA; exact .inr hA
        · exact .inr (Relation.TransGen.trans hA q)
    · have he : stH h g r c (c - 1 + n + 1) = stH h g r c (c - 1 + n) := by omega
      rw [he] at i3 hl2 ⊢
      refine ⟨k, by omega, fun j j1 j2 => ?_, k3⟩
      rcases (show j ≤ c - 1 + n ∨ j = c - 1 + n + 1 by omega) with hj | rfl
      · exact k2 j j1 hj
      · exact i3 hl2

/-- a room that lies to the right and below -/
theorem Corner.there (C : Corner h wd g a r c) {q k : Nat} (hq : r ≤ q) (hqh : q < h) (hk : c ≤ k) (hkw : k < wd) : LL h wd g a (g q k) ∨ AA h wd g a (g q k) := by
  have c1 := C.c1
  have r1 := C.r1
  rcases Nat.lt_or_ge q (stH h g r c k) with hl | hl
  · left
    obtain ⟨x, x1, x2, x3, x4, x5⟩ := C.crossing (j := c - 1) (q := q) hkw (by rw [stH_low (by omega)]; exact hq) hl (by omega)
    obtain ⟨d1, d2, d3, d4, d5⟩ := C.down x3 (by omega) (by omega)
    have hs : JL h wd g (g (stH h g r c x - 1) x) (g q (x + 1)) := ⟨x + 1, stH h g r c x - 1, q, by omega, by omega, by omega, hqh, fun i hi => d1 i (by omega) (by omega), rfl, rfl⟩
    have ha := C.lead_left (x - (c - 1)) (by omega)
    rw [show c - 1 + (x - (c - 1)) = x by omega] at ha
    have hz : LL h wd g a (g q (x + 1)) := by
      rcases ha with e | e
      · rw [← e] at hs; exact .single hs
      · exact .tail e hs
    rcases row_le (h := h) (g := g) (i := q) (j := x + 1) (j' := k) hqh (by omega) hkw with e | e
    · rw [← e]; exact hz
    · exact Relation.TransGen.trans hz e
  · right
    obtain ⟨y, y1, y2, y3⟩ := C.lead_above (k - (c - 1)) (by omega) (by rw [show c - 1 + (k - (c - 1)) = k by omega]; omega)
    rw [show c - 1 + (k - (c - 1)) = k by omega] at y1 y2 y3
    have i1 := (C.inv k (by omega) hkw).1
    have hs : JA h wd g (g (stH h g r c k - 1) y) (g (stH h g r c k) k) := ⟨stH h g r c k, y, k, by omega, by omega, by omega, hkw, fun j hj => y2 j (by omega) (by omega), rfl, rfl⟩
    have hz : AA h wd g a (g (stH h g r c k) k) := by
      rcases y3 with e | e
      · rw [← e] at hs; exact .single hs
      · exact .tail e hs
    rcases col_le (h := h) (g := g) (j := k) (i := stH h g r c k) (i' := q) hkw hl hqh with e | e
    · rw [← e]; exact hz
    · exact Relation.TransGen.trans hz e
end

/-- each room has a lower right corner -/
theorem corner_of {h wd : Nat} {g : Nat → Nat → Nat} (hr : RectG h wd g) {i j : Nat} (hi : i < h) (hj : j < wd) : ∃ r c, Corner h wd g (g i j) r c ∧ i < r ∧ j < c ∧ (∀ x y, x < h → y < wd → g x y = g i j → x < r ∧ y < c) := by
  obtain ⟨ro, co, a, b, ha, hb, hin⟩ := hr i j hi hj
  have h1 := (hin i j hi hj).1 rfl
  unfold InR at hin h1
  refine ⟨ro + a, co + b, ⟨hr, by omega, ha, by omega, hb, (hin _ _ (by omega) (by omega)).2 (by omega), fun hl e => ?_, fun hl e => ?_⟩, by omega, by omega, fun x y hx hy e => ?_⟩
  · have := (hin _ _ hl (by omega)).1 e; omega
  · have := (hin _ _ (by omega) hl).1 e; omega
  · have := (hin x y hx hy).1 e; omega

/-- never both left and above -/
theorem not_both {h wd : Nat} {g : Nat → Nat → Nat} (hr : RectG h wd g) (nx : NoX h wd g) {a b : Nat} (hA : ∃ i j, i < h ∧ j < wd ∧ g i j = a) (hB : ∃ i j, i < h ∧ j < wd ∧ g i j = b) : ¬ (LL h wd g a b ∧ AA h wd g a b) := by
  rintro ⟨hl, ha⟩
  obtain ⟨i, j, hi, hj, rfl⟩ := hA
  obtain ⟨x, y, hx, hy, rfl⟩ := hB
  obtain ⟨r, c, C, _⟩ := corner_of hr hi hj
  have h1 := (C.left nx hl x y hx hy rfl).2
  have h2 := (C.above nx ha).1 x y hx hy rfl
  omega
/-- a room left of another one has all its cells ahead of it -/
theorem left_cols {h wd : Nat} {g : Nat → Nat → Nat} (hr : RectG h wd g) (nx : NoX h wd g) {i j x y : Nat} (hi : i < h) (hj : j < wd) (hx : x < h) (hy : y < wd) (hl : LL h wd g (g i j) (g x y)) : j < y := by
  obtain ⟨r, c, C, _, c2, c3⟩ := corner_of hr hi hj
  have := (C.left nx hl x y hx hy rfl).1
  omega
theorem above_rows {h wd : Nat} {g : Nat → Nat → Nat} (hr : RectG h wd g) (nx : NoX h wd g) {i j x y : Nat} (hi : i < h) (hj : j < wd) (hx : x < h) (hy : y < wd) (hl : AA h wd g (g i j) (g x y)) : i < x := by
  obtain ⟨r, c, C, r2, _, c3⟩ := corner_of hr hi hj
  have := (C.above nx hl).2 x y hx hy rfl
  omega
end Go.Proofs.Ytpgcpmfemcfoaaa

/-
  Leading over walls told by cells, and what of two rooms of a plain plan there is. (Plain mathematics.)
-/
namespace Go.Proofs.Ytpgcpmfemcfoaaa

/-! # ways by way of other rooms -/
theorem wars_sound {f : Nat → Nat → Bool} : ∀ c a b, wars f c a b = true → Relation.TransGen (fun a b => f a b = true) a b
  | 0, a, b, h => .single h
  | c + 1, a, b, h => by
    rw [wars_succ, Bool.or_eq_true, Bool.and_eq_true] at h
    rcases h with h | ⟨h1, h2⟩
    · exact wars_sound c a b h
    · exact Relation.TransGen.trans (wars_sound c a c h1) (wars_sound c c b h2)
theorem wars_trans {f : Nat → Nat → Bool} : ∀ c k, k < c → ∀ a b, wars f c a k = true → wars f c k b = true → wars f c a b = true
  | 0, k, h, _, _, _, _ => by omega
  | c + 1, k, hk, a, b, h1, h2 => by
    by_cases hkc : k = c
    · subst hkc
      rw [wars_to] at h1
      rw [wars_from] at h2
      rw [wars_succ, h1, h2]; simp
    · have ih := wars_trans (f := f) c k (by omega)
      rw [wars_succ, Bool.or_eq_true, Bool.and_eq_true] at h1 h2 ⊢
      rcases h1 with h1 | ⟨h1, h1'⟩
      · rcases h2 with h2 | ⟨h2, h2'⟩
        · exact .inl (ih a b h1 h2)
        · exact .inr ⟨ih a c h1 h2, h2'⟩
      · rcases h2 with h2 | ⟨h2, h2'⟩
        · exact .inr ⟨h1, ih c b h1' h2⟩
        · exact .inr ⟨h1, h2'⟩
theorem wars_mono {f : Nat → Nat → Bool} {a b : Nat} (h : f a b = true) : ∀ c, wars f c a b = true
  | 0 => h
  | c + 1 => by rw [wars_succ, wars_mono h c]; rfl
theorem wars_iff {f : Nat → Nat → Bool} {n : Nat} (hf : ∀ a b, f a b = true → a < n ∧ b < n) {a b : Nat} : wars f n a b = true ↔ Relation.TransGen (fun a b => f a b = true) a b := by
  refine ⟨wars_sound n a b, fun h => ?_⟩
  induction h with
  | single h => exact wars_mono h n
  | tail _ h ih => exact wars_trans n _ (hf _ _ h).1 _ _ ih (wars_mono h n)

/-! # over walls -/
theorem mem_compactL {xs : List Int} {x : Int} : x ∈ xs → x ∈ compactL xs := by
  induction xs using snoc_ind with
  | h0 => exact fun h => absurd h (List.not_mem_nil)
  | h1 l c ih =>
    intro h
    rw [List.mem_append, List.mem_singleton] at h
    rw [compactL_snoc]
    unfold putL
    rcases h with h | rfl
    · split
      · exact ih h
      · exact List.mem_append_left _ (ih h)
    · split
      · rename_i hl; exact List.mem_of_getLast? hl
      · simp
theorem mem_ahead {g : Nat → Nat → Nat} {X : Wl} {s : Nat} (hs : s < X.long) : ((sideA g X.way X.line (X.first + s) : Nat) : Int) ∈ aheadL g X :=
  mem_compactL (by unfold cellsA; exact List.mem_map.2 ⟨s, List.mem_range.2 hs, rfl⟩)
theorem mem_behind {g : Nat → Nat → Nat} {X : Wl} {s : Nat} (hs : s < X.long) : ((sideB g X.way X.line (X.first + s) : Nat) : Int) ∈ behindL g X :=
  mem_compactL (by unfold cellsB'; exact List.mem_map.2 ⟨s, List.mem_range.2 hs, rfl⟩)
theorem mem_wallsG {h wd w k s : Nat} {g : Nat → Nat → Nat} (hw : w < 2) (hk1 : 1 ≤ k) (hk : k < acrossN h wd w) (hs : s < alongN h wd w) (hf : wayF h wd g w k s = true) (hd : downTo (wayF h wd g w k) s = s) :
    (⟨w, k, s, runFrom (wayF h wd g w k) (alongN h wd w) s⟩ : Wl) ∈ wallsG h wd g := by
  rw [wallsG_two, List.mem_append]
  have := mem_linesW (way := w) (F := wayF h wd g w) (n := alongN h wd w) (k := acrossN h wd w) (l := k) (s := s) hk1 hk hs hf hd
  rcases (show w = 0 ∨ w = 1 by omega) with rfl | rfl
  · exact .inl this
  · exact .inr this
/-- a wall that has some cells of a line -/
theorem wall_of {h wd w k m M : Nat} {g : Nat → Nat → Nat} (hw : w < 2) (hk1 : 1 ≤ k) (hk : k < acrossN h wd w) (hM : M < alongN h wd w) (hmM : m ≤ M) (hf : ∀ i, m ≤ i → i ≤ M → wayF h wd g w k i = true) :
    ∃ X ∈ wallsG h wd g, X.way = w ∧ X.line = k ∧ X.first ≤ m ∧ M < X.first + X.long := by
  generalize hF : wayF h wd g w k = f at hf
  have l1 := downTo_le f (M + 1)
  have l2 := downTo_all f (M + 1)
  have l3 := downTo_stop f (M + 1)
  generalize hb : downTo f (M + 1) = b at l1 l2 l3
  have hbm : b ≤ m := by
    rcases Nat.lt_or_ge m b with hl | hl
    · have := l3 (by omega); rw [hf (b - 1) (by omega) (by omega)] at this; cases this
    · exact hl
  have hd : downTo f b = b := downTo_here (by
    rcases Nat.eq_zero_or_pos b with h0 | h0
    · exact .inl h0
    · exact .inr (l3 h0))
  have hfb := l2 b (Nat.le_refl _) (by omega)
  have hmid := runFrom_mid (f := f) (n := alongN h wd w) (s := b) (i := M) (by omega) (by omega) (fun k a1 a2 => l2 k a1 (by omega))
  have hpos := runFrom_pos (f := f) (n := alongN h wd w) (s := M) hM (hf M hmM (Nat.le_refl _))
  subst hF
  exact ⟨_, mem_wallsG hw hk1 hk (by omega) hfb hd, rfl, rfl, hbm, by show M < b + runFrom _ _ b; omega⟩
theorem justG_iff {h wd w : Nat} {g : Nat → Nat → Nat} (hw : w < 2) {a b : Nat} : justG h wd g w a b = true ↔
    ∃ k s t, 1 ≤ k ∧ k < acrossN h wd w ∧ s < alongN h wd w ∧ t < alongN h wd w ∧ (∀ i, (s ≤ i ∧ i ≤ t) ∨ (t ≤ i ∧ i ≤ s) → wayF h wd g w k i = true) ∧ sideA g w k s = a ∧ sideB g w k t = b := by
  unfold justG justL
  rw [List.any_eq_true]
  constructor
  · rintro ⟨X, hX, ho⟩
    unfold overW at ho
    rw [Bool.and_eq_true, Bool.and_eq_true, beq_iff_eq, List.contains_eq_mem, List.contains_eq_mem, decide_eq_true_eq, decide_eq_true_eq] at ho
    obtain ⟨hwx, h1, h2⟩ := ho
    obtain ⟨s, hs, e1⟩ := ahead_mem h1
    obtain ⟨t, ht, e2⟩ := behind_mem h2
    obtain ⟨m1, m2, m3, m4, m5, m6⟩ := wallsG_mem hX
    subst hwx
    exact ⟨X.line, X.first + s, X.first + t, m2, m3, by omega, by omega, fun i hi => m6 i (by omega) (by omega), by omega, by omega⟩
  · rintro ⟨k, s, t, k1, k2, s1, t1, hp, ea, eb⟩
    obtain ⟨X, hX, x1, x2, x3, x4⟩ := wall_of (m := min s t) (M := max s t) hw k1 k2 (by omega) (by omega) (fun i i1 i2 => hp i (by omega))
    refine ⟨X, hX, ?_⟩
    unfold overW
    rw [Bool.and_eq_true, Bool.and_eq_true, beq_iff_eq, List.contains_eq_mem, List.contains_eq_mem, decide_eq_true_eq, decide_eq_true_eq]
    refine ⟨x1, ?_, ?_⟩
    · have := mem_ahead (g := g) (X := X) (s := s - X.first) (by omega)
      rwa [x1, x2, show X.first + (s - X.first) = s by omega, ea] at this
    · have := mem_behind (g := g) (X := X) (s := t - X.first) (by omega)
      rwa [x1, x2, show X.first + (t - X.first) = t by omega, eb] at this
theorem justG_left {h wd : Nat} {g : Nat → Nat → Nat} {a b : Nat} : justG h wd g 0 a b = true ↔ JL h wd g a b := by
  rw [justG_iff (by omega)]
  unfold JL
  constructor
  · rintro ⟨k, s, t, k1, k2, s1, t1, hp, ea, eb⟩
    refine ⟨k, s, t, k1, k2, s1, t1, fun i hi => ?_, ea, eb⟩
    have := hp i hi
    unfold wayF upF at this
    rw [if_pos rfl, Bool.and_eq_true, decide_eq_true_eq, decide_eq_true_eq] at this
    exact this.2
  · rintro ⟨k, s, t, k1, k2, s1, t1, hp, ea, eb⟩
    refine ⟨k, s, t, k1, k2, s1, t1, fun i hi => ?_, ea, eb⟩
    unfold wayF upF
    rw [if_pos rfl, Bool.and_eq_true, decide_eq_true_eq, decide_eq_true_eq]
    exact ⟨by omega, hp i hi⟩
theorem justG_above {h wd : Nat} {g : Nat → Nat → Nat} {a b : Nat} : justG h wd g 1 a b = true ↔ JA h wd g a b := by
  rw [justG_iff (by omega)]
  unfold JA
  constructor
  · rintro ⟨k, s, t, k1, k2, s1, t1, hp, ea, eb⟩
    refine ⟨k, s, t, k1, k2, s1, t1, fun i hi => ?_, ea, eb⟩
    have := hp i hi
    unfold wayF lvF at this
    rw [if_neg (by omega), Bool.and_eq_true, decide_eq_true_eq, decide_eq_true_eq] at this
    exact this.2
  · rintro ⟨k, s, t, k1, k2, s1, t1, hp, ea, eb⟩
    refine ⟨k, s, t, k1, k2, s1, t1, fun i hi => ?_, ea, eb⟩
    unfold wayF lvF
    rw [if_neg (by omega), Bool.and_eq_true, decide_eq_true_eq, decide_eq_true_eq]
    exact ⟨by omega, hp i hi⟩
theorem trans_congr {R R' : Nat → Nat → Prop} (h : ∀ a b, R a b ↔ R' a b) {a b : Nat} : Relation.TransGen R a b ↔ Relation.TransGen R' a b := by
  have : R = R' := by funext a b; exact propext (h a b)
  rw [this]
theorem leadG_left {h wd r : Nat} {g : Nat → Nat → Nat} (hg : ∀ i j, i < h → j < wd → g i j < r) {a b : Nat} : leadG h wd r g 0 a b = true ↔ LL h wd g a b := by
  unfold leadG LL
  rw [wars_iff (justG_in hg 0)]
  exact trans_congr fun a b => justG_left
theorem leadG_above {h wd r : Nat} {g : Nat → Nat → Nat} (hg : ∀ i j, i < h → j < wd → g i j < r) {a b : Nat} : leadG h wd r g 1 a b = true ↔ AA h wd g a b := by
  unfold leadG AA
  rw [wars_iff (justG_in hg 1)]
  exact trans_congr fun a b => justG_above

/-! # upside down -/
theorem JL_flip {h wd : Nat} {g : Nat → Nat → Nat} {a b : Nat} : JL h wd (fun i j => g (h - 1 - i) j) a b ↔ JL h wd g a b := by
  have key : ∀ (g : Nat → Nat → Nat) {a b : Nat}, JL h wd g a b → JL h wd (fun i j => g (h - 1 - i) j) a b := by
    rintro g a b ⟨k, s, t, k1, k2, s1, t1, hp, ea, eb⟩
    refine ⟨k, h - 1 - s, h - 1 - t, k1, k2, by omega, by omega, fun i hi => hp (h - 1 - i) (by omega), ?_, ?_⟩
    · show g (h - 1 - (h - 1 - s)) (k - 1) = a
      rw [show h - 1 - (h - 1 - s) = s by omega]; exact ea
    · show g (h - 1 - (h - 1 - t)) k = b
      rw [show h - 1 - (h - 1 - t) = t by omega]; exact eb
  refine ⟨fun hj => ?_, key g⟩
  obtain ⟨k, s, t, k1, k2, s1, t1, hp, ea, eb⟩ := key _ hj
  refine ⟨k, s, t, k1, k2, s1, t1, fun i hi => ?_, ?_, ?_⟩
  · have := hp i hi
    simp only at this
    rwa [show h - 1 - (h - 1 - i) = i by omega] at this
  · simp only at ea; rwa [show h - 1 - (h - 1 - s) = s by omega] at ea
  · simp only at eb; rwa [show h - 1 - (h - 1 - t) = t by omega] at eb
theorem JA_flip {h wd : Nat} {g : Nat → Nat → Nat} {a b : Nat} : JA h wd (fun i j => g (h - 1 - i) j) a b ↔ JA h wd g b a := by
  constructor
  · rintro ⟨k, s, t, k1, k2, s1, t1, hp, ea, eb⟩
    refine ⟨h - k, t, s, by omega, by omega, t1, s1, fun j hj => ?_, ?_, ?_⟩
    · have := hp j (by omega)
      simp only at this
      rw [show h - 1 - (k - 1) = h - k by omega, show h - 1 - k = h - k - 1 by omega] at this
      exact fun e => this e.symm
    · simp only at eb; rwa [show h - 1 - k = h - k - 1 by omega] at eb
    · simp only at ea; rwa [show h - 1 - (k - 1) = h - k by omega] at ea
  · rintro ⟨k, s, t, k1, k2, s1, t1, hp, ea, eb⟩
    refine ⟨h - k, t, s, by omega, by omega, t1, s1, fun j hj => ?_, ?_, ?_⟩
    · have := hp j (by omega)
      show g (h - 1 - (h - k - 1)) j ≠ g (h - 1 - (h - k)) j
      rw [show h - 1 - (h - k - 1) = k by omega, show h - 1 - (h - k) = k - 1 by omega]
      exact fun e => this e.symm
    · show g (h - 1 - (h - k - 1)) t = a
      rw [show h - 1 - (h - k - 1) = k by omega]; exact eb
    · show g (h - 1 - (h - k)) s = b
      rw [show h - 1 - (h - k) = k - 1 by omega]; exact ea
theorem LL_flip {h wd : Nat} {g : Nat → Nat → Nat} {a b : Nat} : LL h wd (fun i j => g (h - 1 - i) j) a b ↔ LL h wd g a b := trans_congr fun _ _ => JL_flip
theorem trans_swap {R : Nat → Nat → Prop} {a b : Nat} (h : Relation.TransGen R a b) : Relation.TransGen (fun x y => R y x) b a := by
  induction h with
  | single h => exact .single h
  | tail _ h ih => exact Relation.TransGen.trans (.single h) ih
theorem AA_flip {h wd : Nat} {g : Nat → Nat → Nat} {a b : Nat} : AA h wd (fun i j => g (h - 1 - i) j) a b ↔ AA h wd g b a := by
  unfold AA
  rw [trans_congr (R' := fun a b => JA h wd g b a) fun _ _ => JA_flip]
  exact ⟨trans_swap, trans_swap⟩
theorem rect_flip {h wd : Nat} {g : Nat → Nat → Nat} (hr : RectG h wd g) : RectG h wd (fun i j => g (h - 1 - i) j) := hr.pull (f := fun i => h - 1 - i) (f' := fun j => j) (pull_back h) (pull_id wd)
theorem noX_flip {h wd : Nat} {g : Nat → Nat → Nat} (nx : NoX h wd g) : NoX h wd (fun i j => g (h - 1 - i) j) := fun i k i1 i2 k1 k2 ⟨a1, a2, a3, a4⟩ => by
  simp only at a1 a2 a3 a4
  rw [show h - 1 - (i - 1) = h - i by omega] at a1 a3 a4
  rw [show h - 1 - i = h - i - 1 by omega] at a2 a3 a4
  exact nx (h - i) k (by omega) (by omega) k1 k2 ⟨a2, a1, fun e => a3 e.symm, fun e => a4 e.symm⟩

/-- each two rooms of a plan are in some order -/
theorem some_order {h wd : Nat} {g : Nat → Nat → Nat} (hr : RectG h wd g) {i j x y : Nat} (hi : i < h) (hj : j < wd) (hx : x < h) (hy : y < wd) (hne : g i j ≠ g x y) :
    LL h wd g (g i j) (g x y) ∨ LL h wd g (g x y) (g i j) ∨ AA h wd g (g i j) (g x y) ∨ AA h wd g (g x y) (g i j) := by
  obtain ⟨ro, co, a, b, ha, hb, hin⟩ := hr i j hi hj
  obtain ⟨ro', co', a', b', ha', hb', hin'⟩ := hr x y hx hy
  unfold InR at hin hin'
  have m1 := (hin i j hi hj).1 rfl
  have m2 := (hin' x y hx hy).1 rfl
  -- a column of both
  by_cases hc : co < co' + b' ∧ co' < co + b
  · have hA : g ro (max co co') = g i j := (hin _ _ (by omega) (by omega)).2 (by omega)
    have hB : g ro' (max co co') = g x y := (hin' _ _ (by omega) (by omega)).2 (by omega)
    rcases Nat.le_total ro ro' with hle | hle
    · rcases col_le (h := h) (g := g) (j := max co co') (i := ro) (i' := ro') (wd := wd) (by omega) hle (by omega) with e | e
      · rw [hA, hB] at e; exact absurd e hne
      · rw [hA, hB] at e; exact .inr (.inr (.inl e))
    · rcases col_le (h := h) (g := g) (j := max co co') (i := ro') (i' := ro) (wd := wd) (by omega) hle (by omega) with e | e
      · rw [hA, hB] at e; exact absurd e.symm hne
      · rw [hA, hB] at e; exact .inr (.inr (.inr e))
  · by_cases hrow : ro < ro' + a' ∧ ro' < ro + a
    · have hA : g (max ro ro') co = g i j := (hin _ _ (by omega) (by omega)).2 (by omega)
      have hB : g (max ro ro') co' = g x y := (hin' _ _ (by omega) (by omega)).2 (by omega)
      rcases Nat.le_total co co' with hle | hle
      · rcases row_le (h := h) (g := g) (i := max ro ro') (j := co) (j' := co') (wd := wd) (by omega) hle (by omega) with e | e
        · rw [hA, hB] at e; exact absurd e hne
        · rw [hA, hB] at e; exact .inl e
      · rcases row_le (h := h) (g := g) (i := max ro ro') (j := co') (j' := co) (wd := wd) (by omega) hle (by omega) with e | e
        · rw [hA, hB] at e; exact absurd e.symm hne
        · rw [hA, hB] at e; exact .inr (.inl e)
    · -- apart in both: one lies to the lower right of the other, or to the upper right
      have corner : ∀ {g : Nat → Nat → Nat}, RectG h wd g → ∀ {i j x y : Nat}, i < h → j < wd → x < h → y < wd → (∀ i' j', i' < h → j' < wd → g i' j' = g i j → i' < x ∧ j' < y) → LL h wd g (g i j) (g x y) ∨ AA h wd g (g i j) (g x y) := by
        intro g hr i j x y hi hj hx hy hall
        obtain ⟨r, c, C, r1, c1, _⟩ := corner_of hr hi hj
        have := hall (r - 1) (c - 1) (by have := C.rh; omega) (by have := C.cw; omega) C.at_
        exact C.there (q := x) (k := y) (by omega) hx (by omega) hy
      by_cases h1 : ro + a ≤ ro' ∧ co + b ≤ co'
      · rcases corner hr hi hj (x := x) (y := y) hx hy (fun i' j' a1 a2 e => by have := (hin i' j' a1 a2).1 e; omega) with e | e
        · exact .inl e
        · exact .inr (.inr (.inl e))
      · by_cases h2 : ro' + a' ≤ ro ∧ co' + b' ≤ co
        · rcases corner hr hx hy (x := i) (y := j) hi hj (fun i' j' a1 a2 e => by have := (hin' i' j' a1 a2).1 e; omega) with e | e
          · exact .inr (.inl e)
          · exact .inr (.inr (.inr e))
        · have hf := rect_flip hr
          have fl : ∀ {x y : Nat}, x < h → g (h - 1 - (h - 1 - x)) y = g x y := fun {x y} hx => by
            rw [show h - 1 - (h - 1 - x) = x by omega]
          by_cases h3 : ro' + a' ≤ ro ∧ co + b ≤ co'
          · have := corner hf (i := h - 1 - i) (j := j) (x := h - 1 - x) (y := y) (by omega) hj (by omega) hy (fun i' j' a1 a2 e => by
              rw [fl hi] at e
              have := (hin (h - 1 - i') j' (by omega) a2).1 e; omega)
            rw [fl hi, fl hx] at this
            rcases this with e | e
            · exact .inl (LL_flip.1 e)
            · exact .inr (.inr (.inr (AA_flip.1 e)))
          · have := corner hf (i := h - 1 - x) (j := y) (x := h - 1 - i) (y := j) (by omega) hy (by omega) hj (fun i' j' a1 a2 e => by
              rw [fl hx] at e
              have := (hin' (h - 1 - i') j' (by omega) a2).1 e; omega)
            rw [fl hi, fl hx] at this
            rcases this with e | e
            · exact .inr (.inl (LL_flip.1 e))
            · exact .inr (.inr (.inl (AA_flip.1 e)))
/-- never left and below -/
theorem not_cross {h wd : Nat} {g : Nat → Nat → Nat} (hr : RectG h wd g) (nx : NoX h wd g) {a b : Nat} (hA : ∃ i j, i < h ∧ j < wd ∧ g i j = a) (hB : ∃ i j, i < h ∧ j < wd ∧ g i j = b) : ¬ (LL h wd g a b ∧ AA h wd g b a) := by
  rintro ⟨hl, ha⟩
  obtain ⟨i, j, hi, hj, rfl⟩ := hA
  obtain ⟨x, y, hx, hy, rfl⟩ := hB
  refine not_both (rect_flip hr) (noX_flip nx) ⟨h - 1 - i, j, by omega, hj, ?_⟩ ⟨h - 1 - x, y, by omega, hy, ?_⟩ ⟨LL_flip.2 hl, AA_flip.2 ha⟩
  · show g (h - 1 - (h - 1 - i)) j = _
    rw [show h - 1 - (h - 1 - i) = i by omega]
  · show g (h - 1 - (h - 1 - x)) y = _
    rw [show h - 1 - (h - 1 - x) = x by omega]
end Go.Proofs.Ytpgcpmfemcfoaaa

/-
  Merged texts: OrdI OrdL OrdO.
-/
/-
  Orders of rooms: what they are in memory, and how rooms lead on. (Walks.)
-/
namespace Go.Proofs.Ytpgcpmfemcfoaaa
open Go.RowKit

/-- which room leads to which, by the way of the walls, as cells behind a plan's -/
def ldsL (F : Nat → Nat → Nat → Bool) : List Value := (List.range 162).map fun i => .bool (F (i / 81) (i % 81 / 9) (i % 9))
def ordC (C : Array Value) (F : Nat → Nat → Nat → Bool) : Array Value := C ++ (ldsL F).toArray
theorem ldsL_len (F : Nat → Nat → Nat → Bool) : (ldsL F).length = 162 := by simp [ldsL]
theorem ordC_size {C : Array Value} (h : C.size = 39) (F : Nat → Nat → Nat → Bool) : (ordC C F).size = 201 := by simp [ordC, h, ldsL_len]
theorem ordC_lo {C : Array Value} (F : Nat → Nat → Nat → Bool) {k : Nat} (hk : k < C.size) : (ordC C F)[k]? = C[k]? := by
  unfold ordC; rw [Array.getElem?_append_left hk]
theorem ldsL_at (F : Nat → Nat → Nat → Bool) {way a b : Nat} (hw : way < 2) (ha : a < 9) (hb : b < 9) : (ldsL F)[way * 81 + a * 9 + b]? = some (.bool (F way a b)) := by
  unfold ldsL
  rw [List.getElem?_map, List.getElem?_range (by omega)]
  simp only [Option.map_some]
  rw [show (way * 81 + a * 9 + b) / 81 = way by omega, show (way * 81 + a * 9 + b) % 81 / 9 = a by omega, show (way * 81 + a * 9 + b) % 9 = b by omega]
theorem ordC_at {C : Array Value} (h : C.size = 39) (F : Nat → Nat → Nat → Bool) {way a b : Nat} (hw : way < 2) (ha : a < 9) (hb : b < 9) : (ordC C F)[39 + way * 81 + a * 9 + b]? = some (.bool (F way a b)) := by
  unfold ordC
  rw [Array.getElem?_append_right (by omega), h, show 39 + way * 81 + a * 9 + b - 39 = way * 81 + a * 9 + b by omega, List.getElem?_toArray]
  exact ldsL_at F hw ha hb
/-- one lead told -/
def putLd (F : Nat → Nat → Nat → Bool) (way a b : Nat) (v : Bool) : Nat → Nat → Nat → Bool := fun w x y => if w = way ∧ x = a ∧ y = b then v else F w x y
theorem ldsL_put (F : Nat → Nat → Nat → Bool) {way a b : Nat} (hw : way < 2) (ha : a < 9) (hb : b < 9) (v : Bool) : (ldsL F).set (way * 81 + a * 9 + b) (.bool v) = ldsL (putLd F way a b v) := by
  apply List.ext_getElem?
  intro i
  rw [List.getElem?_set]
  by_cases hi : way * 81 + a * 9 + b = i
  · subst hi
    rw [if_pos rfl, if_pos (by rw [ldsL_len]; omega), ldsL_at _ hw ha hb]
    simp [putLd]
  · rw [if_neg hi]
    by_cases hl : i < 162
    · unfold ldsL
      rw [List.getElem?_map, List.getElem?_map, List.getElem?_range hl]
      simp only [Option.map_some, putLd]
      rw [if_neg (by omega)]
    · rw [List.getElem?_eq_none (by rw [ldsL_len]; omega), List.getElem?_eq_none (by rw [ldsL_len]; omega)]
theorem ordC_put {C : Array Value} (h : C.size = 39) (F : Nat → Nat → Nat → Bool) {way a b : Nat} (hw : way < 2) (ha : a < 9) (hb : b < 9) (v : Bool) : (ordC C F).setIfInBounds (39 + way * 81 + a * 9 + b) (.bool v) = ordC C (putLd F way a b v) := by
  unfold ordC
  apply Array.toList_inj.1
  rw [Array.toList_setIfInBounds, Array.toList_append, Array.toList_append, List.set_append_right _ _ (by rw [Array.length_toList]; omega), Array.length_toList, h, show 39 + way * 81 + a * 9 + b - 39 = way * 81 + a * 9 + b by omega]
  congr 1
  exact ldsL_put F hw ha hb v
theorem ordC_same {C : Array Value} {F G : Nat → Nat → Nat → Bool} (h : ∀ w a b, w < 2 → a < 9 → b < 9 → F w a b = G w a b) : ordC C F = ordC C G := by
  unfold ordC ldsL
  congr 2
  refine List.map_congr_left fun i hi => ?_
  have := List.mem_range.1 hi
  rw [h _ _ _ (by omega) (by omega) (by omega)]
theorem ordC_one {C : Array Value} (h : C.all (·.oneCell') = true) (F : Nat → Nat → Nat → Bool) : (ordC C F).all (·.oneCell') = true := by
  unfold ordC
  rw [Array.all_append, h, Bool.true_and, Array.all_eq_true_iff_forall_mem]
  intro v hv
  unfold ldsL at hv
  simp only [List.mem_toArray, List.mem_map] at hv
  obtain ⟨i, _, rfl⟩ := hv
  rfl
theorem ord_info {C : Array Value} (h : C.size = 39) (F : Nat → Nat → Nat → Bool) : (Try.prog.info? 52).map (·.size) = some (ordC C F).size := by rw [ordC_size h]; kernel_rfl
def noF : Nat → Nat → Nat → Bool := fun _ _ _ => false
theorem zero_ord : ordC zeroC noF = #[.int .i64 0, .int .i64 0, .int .i64 0, .int .i64 0, .int .i64 0, .int .i64 0, .int .i64 0, .int .i64 0, .int .i64 0, .int .i64 0, .int .i64 0, .int .i64 0, .int .i64 0, .int .i64 0, .int .i64 0, .int .i64 0, .int .i64 0, .int .i64 0, .int .i64 0, .int .i64 0, .int .i64 0, .int .i64 0, .int .i64 0, .int .i64 0, .int .i64 0, .int .i64 0, .int .i64 0, .int .i64 0, .int .i64 0, .int .i64 0, .int .i64 0, .int .i64 0, .int .i64 0, .int .i64 0, .int .i64 0, .int .i64 0, .int .i64 0, .int .i64 0, .int .i64 0, .bool false, .bool false, .bool false, .bool false, .bool false, .bool false, .bool false, .bool false, .bool false, .bool false, .bool false, .bool false, .bool false, .bool false, .bool false, .bool false, .bool false, .bool false, .bool false, .bool false, .bool false, .bool false, .bool false, .bool false, .bool false, .bool false, .bool false, .bool false, .bool false, .bool false, .bool false, .bool false, .bool false, .bool false, .bool false, .bool false, .bool false, .bool false, .bool false, .bool false, .bool false, .bool false, .bool false, .bool false, .bool false, .bool false, .bool false, .bool false, .bool false, .bool false, .bool false, .bool false, .bool false, .bool false, .bool false, .bool false, .bool false, .bool false, .bool false, .bool false, .bool false, .bool false, .bool false, .bool false, .bool false, .bool false, .bool false, .bool false, .bool false, .bool false, .bool false, .bool false, .bool false, .bool false, .bool false, .bool false, .bool false, .bool false, .bool false, .bool false, .bool false, .bool false, .bool false, .bool false, .bool false, .bool false, .bool false, .bool false, .bool false, .bool false, .bool false, .bool false, .bool false, .bool false, .bool false, .bool false, .bool false, .bool false, .bool false, .bool false, .bool false, .bool false, .bool false, .bool false, .bool false, .bool false, .bool false, .bool false, .bool false, .bool false, .bool false, .bool false, .bool false, .bool false, .bool false, .bool false, .bool false, .bool false, .bool false, .bool false, .bool false, .bool false, .bool false, .bool false, .bool false, .bool false, .bool false, .bool false, .bool false, .bool false, .bool false, .bool false, .bool false, .bool false, .bool false, .bool false, .bool false, .bool false, .bool false, .bool false, .bool false, .bool false, .bool false, .bool false, .bool false, .bool false, .bool false, .bool false, .bool false, .bool false, .bool false, .bool false, .bool false, .bool false, .bool false, .bool false, .bool false, .bool false, .bool false, .bool false, .bool false, .bool false] := by kernel_rfl
theorem zero_ordC (w : World) : (zeroValue 52).run Try.prog w = .ok (.agg (ordC zeroC noF)) w := by
  rw [zero_ord]; exact Try.zeroValue52 w
theorem built_ord (h wd r : Nat) (g : Nat → Nat → Nat) : Try.prog.built 52 [(0, .agg (planC h wd r g))] = some (ordC (planC h wd r g) noF) := by kernel_rfl
/-- the plan of an order -/
theorem HeldB.planOf {W : World} {B : Nat} {C : Array Value} {F : Nat → Nat → Nat → Bool} (h : HeldB W B 52 (ordC C F)) : W.rangeAt B 0 C.toList := fun j v hv => by
  have hj : j < C.size := by
    have := (List.getElem?_eq_some_iff.1 hv).1
    simpa using this
  rw [Nat.zero_add, h.cell j, ordC_lo F hj, ← hv]; simp
theorem plan_len {C : Array Value} (h : C.size = 39) : (Try.prog.info? 47).map (·.size) = some C.toList.length := by rw [Array.length_toList, h]; kernel_rfl

/-- how far the leading on over one room has come -/
def midF (f : Nat → Nat → Bool) (c i j : Nat) (a b : Nat) : Bool := if a < i ∨ a = i ∧ b < j then wars f (c + 1) a b else wars f c a b
theorem midF_to (f : Nat → Nat → Bool) (c i j a : Nat) : midF f c i j a c = wars f c a c := by
  unfold midF; split
  · exact wars_to f c a
  · rfl
theorem midF_from (f : Nat → Nat → Bool) (c i j b : Nat) : midF f c i j c b = wars f c c b := by
  unfold midF; split
  · exact wars_from f c b
  · rfl
theorem midF_here (f : Nat → Nat → Bool) (c i j : Nat) : midF f c i j i j = wars f c i j := by unfold midF; rw [if_neg (by omega)]
theorem midF_zero (f : Nat → Nat → Bool) (c a b : Nat) : midF f c 0 0 a b = wars f c a b := by unfold midF; rw [if_neg (by omega)]
theorem midF_step (f : Nat → Nat → Bool) (c i j a b : Nat) : midF f c i (j + 1) a b = if a = i ∧ b = j then wars f (c + 1) i j else midF f c i j a b := by
  unfold midF
  by_cases h : a = i ∧ b = j
  · obtain ⟨rfl, rfl⟩ := h; rw [if_pos (by omega), if_pos ⟨rfl, rfl⟩]
  · rw [if_neg h]
    by_cases h2 : a < i ∨ a = i ∧ b < j
    · rw [if_pos h2, if_pos (by omega)]
    · rw [if_neg h2, if_neg (by omega)]
theorem midF_row {f : Nat → Nat → Bool} {n : Nat} (hf : ∀ a b, f a b = true → a < n ∧ b < n) (c i : Nat) (a b : Nat) : midF f c i n a b = midF f c (i + 1) 0 a b := by
  unfold midF
  by_cases h : a < i ∨ a = i ∧ b < n
  · rw [if_pos h, if_pos (by omega)]
  · rw [if_neg h]
    by_cases h2 : a < i + 1 ∨ a = i + 1 ∧ b < 0
    · rw [if_pos h2]
      have hb : n ≤ b := by omega
      have z : ∀ k, wars f k a b = false := fun k => by
        rw [Bool.eq_false_iff]; intro e; have := (wars_in hf k a b e).2; omega
      rw [z, z]
    · rw [if_neg h2]
theorem midF_all {f : Nat → Nat → Bool} {n : Nat} (hf : ∀ a b, f a b = true → a < n ∧ b < n) (c : Nat) (a b : Nat) : midF f c n 0 a b = wars f (c + 1) a b := by
  unfold midF
  by_cases h : a < n ∨ a = n ∧ b < 0
  · rw [if_pos h]
  · rw [if_neg h]
    have z : ∀ k, wars f k a b = false := fun k => by
      rw [Bool.eq_false_iff]; intro e; have := (wars_in hf k a b e).1; omega
    rw [z, z]
/-- leads of one way in place of others -/
def wayF' (F : Nat → Nat → Nat → Bool) (way : Nat) (f : Nat → Nat → Bool) : Nat → Nat → Nat → Bool := fun w a b => if w = way then f a b else F w a b
theorem wayF_at (F : Nat → Nat → Nat → Bool) (way : Nat) (f : Nat → Nat → Bool) (a b : Nat) : wayF' F way f way a b = f a b := if_pos rfl
theorem wayF_put (F : Nat → Nat → Nat → Bool) (way : Nat) (f : Nat → Nat → Bool) (c i j : Nat) : putLd (wayF' F way (midF f c i j)) way i j (wars f (c + 1) i j) = wayF' F way (midF f c i (j + 1)) := by
  funext w a b
  unfold putLd wayF'
  rw [midF_step]
  by_cases h1 : w = way
  · rw [if_pos h1, if_pos h1]
    by_cases h2 : a = i ∧ b = j
    · rw [if_pos ⟨h1, h2⟩, if_pos h2]
    · rw [if_neg (fun e => h2 e.2), if_neg h2]
  · rw [if_neg (fun e => h1 e.1), if_neg h1, if_neg h1]
theorem wayF_congr (F : Nat → Nat → Nat → Bool) (way : Nat) {f f' : Nat → Nat → Bool} (h : ∀ a b, f a b = f' a b) : wayF' F way f = wayF' F way f' := by
  funext w a b; unfold wayF'; split
  · exact h a b
  · rfl

end Go.Proofs.Ytpgcpmfemcfoaaa

/-
  How rooms lead on by way of other rooms: the program's three loops. (Walk.)
-/
namespace Go.Proofs.Ytpgcpmfemcfoaaa
open Go.RowKit

theorem grownBy_cell (w : World) (b i : Nat) (v : Value) : w.grownBy (w.setCell ⟨b, i, none⟩ v) (some b) :=
  ⟨rfl, rfl, rfl, (KeepsWalks.setCell w _ v).size, fun k _ hk => Below.heap_setCell _ _ _ k (fun e => hk (by rw [e]))⟩

/-- the world in which the leading on has come so far -/
def LeadSt (w : World) (B : Nat) (C : Array Value) (F : Nat → Nat → Nat → Bool) (way c i j : Nat) (wr : World) : Prop :=
  HeldB wr B 52 (ordC C (wayF' F way (midF (F way) c i j))) ∧ w.grownBy wr (some B)
theorem LeadSt.drew {w : World} {B : Nat} {C : Array Value} {F : Nat → Nat → Nat → Bool} {way c i j : Nat} {wr : World} (h : LeadSt w B C F way c i j wr) : LeadSt w B C F way c i j wr.drew :=
  ⟨h.1.drew, grownBy_trans h.2 (grownBy_of_below (below_drewN _ wr 1) _)⟩
theorem LeadSt.put {w : World} {B : Nat} {C : Array Value} (hC : C.size = 39) {F : Nat → Nat → Nat → Bool} {way c i j : Nat} {wr : World} (hw : way < 2) (hi : i < 9) (hj : j < 9) (h : LeadSt w B C F way c i j wr) :
    LeadSt w B C F way c i (j + 1) (wr.setCell ⟨B, 39 + way * 81 + i * 9 + j, none⟩ (.bool (wars (F way) (c + 1) i j))) := by
  refine ⟨?_, grownBy_trans h.2 (grownBy_cell wr B _ _)⟩
  have := h.1.set (39 + way * 81 + i * 9 + j) (.bool (wars (F way) (c + 1) i j))
  rw [ordC_put hC _ hw hi hj, wayF_put] at this
  exact this

set_option maxRecDepth 100000 in
set_option maxHeartbeats 1600000 in
theorem leadOn_any (B h wd r : Nat) (g : Nat → Nat → Nat) (F : Nat → Nat → Nat → Bool) (way : Nat) (w : World) (hw : way < 2) (hr : r ≤ 9) (hF : ∀ a b, F way a b = true → a < r ∧ b < r)
    (hB : HeldB w B 52 (ordC (planC h wd r g) F)) :
    Calls Try.prog 71 #[.pointer (some ⟨B, 0, none⟩), .int .i64 way] w
      fun e w' => e = .returned (.tuple #[]) ∧ HeldB w' B 52 (ordC (planC h wd r g) (wayF' F way (wars (F way) r))) ∧ w.grownBy w' (some B) := by
  have hC := planC_size h wd r g
  have hst0 : LeadSt w B (planC h wd r g) F way 0 0 0 w := by
    refine ⟨hB.eq (ordC_same fun x a b _ _ _ => ?_), World.grownBy.refl w _⟩
    unfold wayF'
    split
    · rename_i hx; subst hx; rw [midF_zero]; rfl
    · rfl
  have hC2 : ∀ F', (ordC (planC h wd r g) F')[2]? = some (.int .i64 (r : Nat)) := fun F' => by rw [ordC_lo F' (by omega), planC_2]
  have HC2 := Lib.hid hC2; clear hC2
  have HC := Lib.hid hC
  have HF := Lib.hid hF; clear hF hB
  generalize planC h wd r g = C at *
  have hwi : (way : Int) < 2 := by omega
  clear hC
  go_enter Try.func71, Try.ntmps71
  have c2 : w.cell? ⟨B, 2, none⟩ = some (.int .i64 (r : Nat)) := (hst0.1.cell 2).trans (HC2.out _)
  go_wp2
  clear c2
  go_loopw [18] (fun v wr => ∃ c : Nat, c ≤ r ∧ v = .int .i64 c ∧ LeadSt w B C F way c 0 0 wr) (fun v _ => r - (intOf v).toNat)
  case atStart => exact ⟨0, Nat.zero_le _, rfl, hst0⟩
  case round =>
    clear hst0
    obtain ⟨c, hc, rfl, hst⟩ := hrel
    by_cases hcr : c < r
    · have c2 : wr.cell? ⟨B, 2, none⟩ = some (.int .i64 (r : Nat)) := (hst.1.cell 2).trans (HC2.out _)
      go_wp2
      clear c2
      go_loopw [26] (fun v wr => ∃ i : Nat, i ≤ r ∧ v = .int .i64 i ∧ LeadSt w B C F way c i 0 wr) (fun v _ => r - (intOf v).toNat)
      case atStart => exact ⟨0, Nat.zero_le _, rfl, hst⟩
      case round =>
        clear hst
        obtain ⟨i, hi, rfl, hst⟩ := hrel
        by_cases hir : i < r
        · have c2 : wr.cell? ⟨B, 2, none⟩ = some (.int .i64 (r : Nat)) := (hst.1.cell 2).trans (HC2.out _)
          go_wp2
          clear c2
          go_loopw [34] (fun v wr => ∃ j : Nat, j ≤ r ∧ v = .int .i64 j ∧ LeadSt w B C F way c i j wr) (fun v _ => r - (intOf v).toNat)
          case atStart => exact ⟨0, Nat.zero_le _, rfl, hst⟩
          case round =>
            clear hst
            obtain ⟨j, hj, rfl, hst⟩ := hrel
            by_cases hjr : j < r
            · have k1 : wr.cell? ⟨B, 39 + way * 81 + i * 9 + j, none⟩ = some (.bool (wars (F way) c i j)) := (hst.1.cell _).trans ((ordC_at HC.out _ hw (by omega) (by omega)).trans (by rw [wayF_at, midF_here]))
              have k2 : wr.cell? ⟨B, 39 + way * 81 + i * 9 + c, none⟩ = some (.bool (wars (F way) c i c)) := (hst.1.cell _).trans ((ordC_at HC.out _ hw (by omega) (by omega)).trans (by rw [wayF_at, midF_to]))
              have k3 : wr.cell? ⟨B, 39 + way * 81 + c * 9 + j, none⟩ = some (.bool (wars (F way) c c j)) := (hst.1.cell _).trans ((ordC_at HC.out _ hw (by omega) (by omega)).trans (by rw [wayF_at, midF_from]))
              have f1 := hst.1.frozen (39 + way * 81 + i * 9 + j)
              have hst2 := hst.put HC.out hw (by omega) (by omega)
              rw [wars_succ] at hst2
              clear hst
              generalize wars (F way) c i j = x1 at *
              generalize wars (F way) c i c = x2 at *
              generalize wars (F way) c c j = x3 at *
              have hi9 : (i : Int) < 9 := by omega
              have hj9 : (j : Int) < 9 := by omega
              have hc9 : (c : Int) < 9 := by omega
              have hi9' : i < 9 := by omega
              have hj9' : j < 9 := by omega
              have hc9' : c < 9 := by omega
              cases x1
              · cases x2
                · simp only [Bool.false_or, Bool.false_and] at hst2
                  go_wp2
                  go_region
                  all_goals
                    go_wp2
                    go_roundw
                    case rel => exact ⟨j + 1, by omega, by go_num, hst2.drew⟩
                    case measure => simp [intOf]; omega
                · simp only [Bool.false_or, Bool.true_and] at hst2
                  go_wp2
                  go_region
                  all_goals
                    go_wp2
                    go_roundw
                    case rel => exact ⟨j + 1, by omega, by go_num, hst2.drew⟩
                    case measure => simp [intOf]; omega
              · simp only [Bool.true_or] at hst2
                go_wp2
                go_region
                all_goals
                  go_wp2
                  go_roundw
                  case rel => exact ⟨j + 1, by omega, by go_num, hst2.drew⟩
                  case measure => simp [intOf]; omega
            · obtain rfl : j = r := by omega
              have hst2 : LeadSt w B C F way c (i + 1) 0 wr := ⟨hst.1.eq (by rw [wayF_congr F way (fun a b => midF_row HF.out c i a b)]), hst.2⟩
              clear hst
              go_wp2
              go_roundw
              case rel => exact ⟨i + 1, by omega, by go_num, hst2⟩
              case measure => simp [intOf]; omega
        · obtain rfl : i = r := by omega
          have hst2 : LeadSt w B C F way (c + 1) 0 0 wr := ⟨hst.1.eq (by rw [wayF_congr F way (fun a b => (midF_all HF.out c a b).trans (midF_zero _ _ a b).symm)]), hst.2⟩
          clear hst
          go_wp2
          go_roundw
          case rel => exact ⟨c + 1, by omega, by go_num, hst2⟩
          case measure => simp [intOf]; omega
    · obtain rfl : c = r := by omega
      have hst2 : HeldB wr B 52 (ordC C (wayF' F way (wars (F way) c))) := hst.1.eq (by rw [wayF_congr F way (fun a b => midF_zero _ _ a b)])
      have hg := hst.2
      clear hst
      go_wp2
      exact bodyPost_end (v := .tuple #[]) (by simp [results, Try.results71, go_sem]) rfl ⟨rfl, hst2, hg⟩
end Go.Proofs.Ytpgcpmfemcfoaaa

/-
  The order of a plan: what leads over walls, and on from there. (Walk.)
-/
namespace Go.Proofs.Ytpgcpmfemcfoaaa
open Go.RowKit

theorem wpList_load_plan {P : Program} {ops : Array Oper} {rest : List Oper} {op : Oper} {a : Act} {w : World} {Q : Exit → Act → World → Prop} (hgd : op.guard = none) (ty : TypeId) (x : Operand) (ho : op.op = .load ty x)
    (b o : Nat) (hx : a.eval x = .pointer (some ⟨b, o, none⟩)) (C : Array Value) (d : TypeDesc) (hc : w.rangeAt b o C.toList)
    (hu : P.underlying ty = some d) (hd : d.isRow = true) (hi : (P.info? ty).map (·.size) = some C.toList.length)
    (h : wpList P ops Q rest (a.put op.dst (.agg C)) w) : wpList P ops Q (op :: rest) a w :=
  wpList_load_mid hgd ty x ho b o hx C.toList d hc hu hd hi (by simpa using h)
theorem results_ord {fn : Func} {p : Tmp} (h : fn.results = #[.cell p 52]) {tmps : Array Value} {w : World} {B : Nat} {D : Array Value}
    (hp : tmps.getD p undef = .pointer (some ⟨B, 0, none⟩)) (hB : HeldB w B 52 D) (hs : D.size = 201) :
    (results fn tmps).run Try.prog w = .ok (.agg D) w :=
  results_cell_row h tmps w B 52 D (0, 0) _ (by rw [hp]) hB Try.underlying52 rfl (by rw [hs]; kernel_rfl)

/-- where the orders of a plan lie while they are made -/
def OrSt (w : World) (Z C : Array Value) (ro : Option Addr) (L : List Wl) (F : Nat → Nat → Nat → Bool) (wr : World) : Prop :=
  HeldB wr (w.heap.size + 1) 52 Z ∧ HeldB wr (w.heap.size + 2) 52 (ordC C F) ∧ CellsAt wr ro (wlsC L) ∧ Below w.heap.size w wr ∧ w.heap.size + 3 ≤ wr.heap.size
theorem OrSt.below {w : World} {Z C : Array Value} {ro : Option Addr} {L : List Wl} {F : Nat → Nat → Nat → Bool} {wr w1 : World} (h : OrSt w Z C ro L F wr) (hb : Below wr.heap.size wr w1) : OrSt w Z C ro L F w1 :=
  ⟨h.1.below hb, h.2.1.below hb, h.2.2.1.below hb, below_step h.2.2.2.1 h.2.2.2.1.size hb, Nat.le_trans h.2.2.2.2 hb.size⟩
theorem OrSt.put {w : World} {Z C : Array Value} (hC : C.size = 39) {ro : Option Addr} {L : List Wl} {F G : Nat → Nat → Nat → Bool} {wr : World} (h : OrSt w Z C ro L F wr) (hro : ∀ x, ro = some x → x.block ≠ w.heap.size + 2) {way a b : Nat} (hw : way < 2) (ha : a < 9) (hb : b < 9)
    (hG : putLd F way a b true = G) : OrSt w Z C ro L G (wr.setCell ⟨w.heap.size + 2, 39 + way * 81 + a * 9 + b, none⟩ (.bool true)) := by
  subst hG
  have hg := grownBy_cell wr (w.heap.size + 2) (39 + way * 81 + a * 9 + b) (.bool true)
  refine ⟨h.1.other (by simp) _, ?_, h.2.2.1.grown hg (fun x hx e => hro x hx (Option.some.inj e)), h.2.2.2.1.setCell (p := ⟨w.heap.size + 2, 39 + way * 81 + a * 9 + b, none⟩) (by simp) _, Nat.le_trans h.2.2.2.2 hg.size⟩
  have := h.2.1.set (39 + way * 81 + a * 9 + b) (.bool true)
  rwa [ordC_put hC _ hw ha hb] at this

def ledF (h wd r : Nat) (g : Nat → Nat → Nat) : Nat → Nat → Nat → Bool := fun way => leadG h wd r g way

set_option maxRecDepth 100000 in
set_option maxHeartbeats 4000000 in
theorem order_any (h wd r : Nat) (g : Nat → Nat → Nat) (w : World) (hh : h ≤ 6) (hw : wd ≤ 6) (hr : r ≤ 9) (hg : ∀ i j, i < h → j < wd → g i j < r) :
    Calls Try.prog 35 #[.agg (planC h wd r g)] w
      fun e w' => e = .returned (.agg (ordC (planC h wd r g) (ledF h wd r g))) ∧ Below w.heap.size w w' := by
  have HWA := Lib.hid (fun w => walls_any h wd r g w hh hw)
  have HPS := Lib.hid (plan_size h wd r g)
  have HCS := Lib.hid (planC_size h wd r g)
  have HOB := Lib.hid (built_ord h wd r g)
  have HO1 := Lib.hid (fun F => ordC_one (planC_one h wd r g) F)
  have HLO := Lib.hid (fun (B : Nat) (F : Nat → Nat → Nat → Bool) (way : Nat) (w : World) (a1 : way < 2) (a2 : ∀ a b, F way a b = true → a < r ∧ b < r) a3 => leadOn_any B h wd r g F way w a1 hr a2 a3)
  have HSI := Lib.hid (fun (X : Wl) (hX : X ∈ wallsG h wd g) (w : World) => show Calls Try.prog 70 #[.agg (planC h wd r g), .agg (wlC X)] w
      fun e w' => TwoRet w.heap.size (aheadL g X) (behindL g X) e w' ∧ Below w.heap.size w w' from by
    obtain ⟨m1, m2, m3, m4, m5, m6⟩ := wallsG_mem hX
    have a1 : acrossN h wd X.way ≤ 6 := by unfold acrossN; split <;> omega
    have a2 : alongN h wd X.way ≤ 6 := by unfold alongN; split <;> omega
    exact sides_any h wd r g X w m2 (by omega) (by omega))
  have HAR := Lib.hid (fun (X : Wl) (hX : X ∈ wallsG h wd g) (i : Nat) hi => ahead_room hg hX (i := i) hi)
  have HBR := Lib.hid (fun (X : Wl) (hX : X ∈ wallsG h wd g) (i : Nat) hi => behind_room hg hX (i := i) hi)
  have HFE := Lib.hid (fun (X : Wl) (hX : X ∈ wallsG h wd g) => sides_few hh hw hX)
  have HWY := Lib.hid (fun (X : Wl) (hX : X ∈ wallsG h wd g) => (wallsG_mem hX).1)
  have HIN := Lib.hid (fun way => justG_in hg way)
  have HLE := Lib.hid (wallsG_len (g := g) hh hw)
  have HDEF := Lib.hid (show ∀ way, leadG h wd r g way = wars (justL g way (wallsG h wd g)) r from fun _ => rfl)
  have HJG := Lib.hid (show ∀ way, justG h wd g way = justL g way (wallsG h wd g) from fun _ => rfl)
  unfold ledF
  generalize wallsG h wd g = L at *
  generalize leadG h wd r g = lead at *
  generalize justG h wd g = just at *
  generalize planC h wd r g = C at *
  clear hg
  have HSO := Lib.hid (fun F => ordC_size HCS.out F)
  have HPL := Lib.hid (plan_len HCS.out)
  have HI2 := Lib.hid (fun F => ord_info HCS.out F)
  have HZ0 := Lib.hid zero_ordC
  have HZS := Lib.hid (show (ordC zeroC noF).size = 201 from ordC_size (planC_size _ _ _ _) _)
  have HZ1 := Lib.hid (HO1.out noF)
  have HDS := Lib.hid (HSO.out noF)
  have HD2 := Lib.hid (HI2.out noF)
  obtain ⟨D, hD⟩ : ∃ D, D = ordC C noF := ⟨_, rfl⟩
  rw [← hD] at HOB HZ1 HDS HD2
  have HD := Lib.hid hD; clear hD
  generalize ordC zeroC noF = Z at *
  go_enter Try.func35, Try.ntmps35
  have b0 : HeldB ((w.alloc (.cells C 47)).alloc (.cells Z 52)) w.heap.size 47 C := (HeldB.new w _ _).alloc _
  have b1 : HeldB (((w.alloc (.cells C 47)).alloc (.cells Z 52)).alloc (.cells D 52)) (w.heap.size + 1) 52 Z := by
    have := (HeldB.new (w.alloc (.cells C 47)) 52 Z).alloc (.cells D 52)
    rwa [World.size_alloc] at this
  have b2 : HeldB (((w.alloc (.cells C 47)).alloc (.cells Z 52)).alloc (.cells D 52)) (w.heap.size + 2) 52 (ordC C noF) := by
    have := HeldB.new ((w.alloc (.cells C 47)).alloc (.cells Z 52)) 52 D
    rw [World.size_alloc, World.size_alloc] at this
    exact this.eq HD.out
  have p2 := b2.planOf
  go_wp2_with (first
    | (refine wpList_alloc_zero rfl 52 rfl Z HZ0.out ?_)
    | (refine wpList_load_row rfl 47 _ rfl w.heap.size rfl 47 C (0, 0) _ b0 Try.underlying47 rfl HPS.out ?_)
    | (refine wpList_build_as rfl 52 _ rfl D (by simp only [List.map_toArray, List.map_cons, List.map_nil]; exact HOB.out) ?_)
    | (refine wpList_store_new rfl 52 _ _ rfl _ Z D rfl rfl rfl HD2.out (by rw [HZS.out, HDS.out]) HZ1.out ?_)
    | (refine wpList_load_plan rfl 47 _ rfl (w.heap.size + 2) 0 rfl C _ p2 Try.underlying47 rfl HPL.out ?_)
    | (go_at_call 69; refine (HWA.out _).mono ?_; rintro e w2 ⟨ro, rc, rfl, hown2, hb2⟩))
  have hW0 : Below w.heap.size w (((w.alloc (.cells C 47)).alloc (.cells Z 52)).alloc (.cells D 52)) := (((Below.refl _ w).alloc (Nat.le_refl _) _).alloc (by simp) _).alloc (by simp; omega) _
  have hsz : (((w.alloc (.cells C 47)).alloc (.cells Z 52)).alloc (.cells D 52)).heap.size = w.heap.size + 3 := by simp
  generalize (((w.alloc (.cells C 47)).alloc (.cells Z 52)).alloc (.cells D 52)) = W0 at *
  have hro : ∀ x, ro = some x → x.block ≠ w.heap.size + 2 := fun x hx => by have := owns_lt hown2 x hx; omega
  have hs2 : w.heap.size + 3 ≤ w2.heap.size := by have := hb2.size; omega
  have st2 : OrSt w Z C ro L (fun way => justL g way (L.take 0)) w2 := ⟨b1.below hb2, (b2.below hb2).eq (by rw [show (noF : Nat → Nat → Nat → Bool) = fun way => justL g way (L.take 0) from rfl]), ownsK_cells hown2, below_step hW0 hW0.size hb2, hs2⟩
  clear hsz hW0 b0 b1 b2 p2 hown2 hb2 hs2 HD HOB HD2 HDS HZ1
  have HRO := Lib.hid hro; clear hro
  go_loopw [18] (fun v wr => ∃ n : Nat, n ≤ L.length ∧ v = .int .i64 n ∧ OrSt w Z C ro L (fun way => justL g way (L.take n)) wr) (fun v _ => L.length - (intOf v).toNat)
  case atStart => exact ⟨0, Nat.zero_le _, rfl, st2⟩
  case round =>
    clear st2
    obtain ⟨n, hn, rfl, hst⟩ := hrel
    by_cases hnl : n < L.length
    · have hX : L.getD n zeroWl ∈ L := getD_mem zeroWl hnl
      have HTK := Lib.hid (take_snoc L n zeroWl hnl)
      obtain ⟨b, off, hb, hrg⟩ := wls_range hst.2.2.1 hnl
      generalize L.getD n zeroWl = X at *
      have hw2 := HWY.out X hX
      have hw2i : (X.way : Int) < 2 := by omega
      have HSX := Lib.hid (HSI.out X hX)
      have HAX := Lib.hid (HAR.out X hX)
      have HBX := Lib.hid (HBR.out X hX)
      have HAP := Lib.hid (fun (i j : Nat) hi hj x y hx hy => accF_put (g := g) (X := X) (i := i) (j := j) (x := x) (y := y) (L.take n) hi hj hx hy)
      have HAROW := Lib.hid (fun (i : Nat) hi => accF_row (g := g) (X := X) (i := i) (L.take n) hi)
      have HAALL := Lib.hid (accF_all g (L.take n) X)
      obtain ⟨hA6, hB6⟩ := HFE.out X hX
      have hL72 := HLE.out
      have st0 : OrSt w Z C ro L (accF g (L.take n) X 0 0) wr := by rw [accF_zero]; exact hst
      have HRO2 := Lib.hid (show ∀ x, ro = some x → x.block ≠ w.heap.size + 2 from HRO.out)
      have HNX := Lib.hid (show accF g (L.take n) X (aheadL g X).length 0 = fun way => justL g way (L.take (n + 1)) by rw [HTK.out, accF_all])
      have hV3 : w.heap.size + 3 ≤ wr.heap.size := hst.2.2.2.2
      have st3 := st0.below (below_alloc wr (.cells (wlC X) 108))
      have hbX := HeldB.new wr 108 (wlC X)
      have p3 := st3.2.1.planOf
      have hsz3 : (wr.alloc (.cells (wlC X) 108)).heap.size = wr.heap.size + 1 := by simp
      subst hb
      clear hst st0
      go_wp2_with (first
        | (refine wpList_load_wl rfl 108 _ rfl b (off + n * 4) rfl X _ hrg Try.underlying108 rfl Try.sizeWl ?_)
        | (refine wpList_store_new rfl 108 _ _ rfl _ (wlC zeroWl) (wlC X) rfl rfl rfl (wl_size _) rfl (wlC_one _) ?_)
        | (refine wpList_load_plan rfl 47 _ rfl (w.heap.size + 2) 0 rfl C _ p3 Try.underlying47 rfl HPL.out ?_)
        | (refine wpList_load_row rfl 108 _ rfl wr.heap.size rfl 108 (wlC X) (0, 0) _ hbX Try.underlying108 rfl (wl_size _) ?_)
        | (go_at_call 70; refine (HSX.out _).mono ?_; rintro e w4 ⟨⟨r0, q0, r1, q1, rfl, o0, o1, hap⟩, hb4⟩))
      have st4 := st3.below hb4
      have hbX4 := hbX.below hb4
      have cA := owns_cells o0
      have cB := owns_cells o1
      have hr0 : ∀ x, r0 = some x → x.block ≠ w.heap.size + 2 := fun x hx => by have := owns_lt o0 x hx; omega
      have hr1 : ∀ x, r1 = some x → x.block ≠ w.heap.size + 2 := fun x hx => by have := owns_lt o1 x hx; omega
      obtain ⟨V, hV⟩ : ∃ V, V = wr.heap.size := ⟨_, rfl⟩
      rw [← hV] at hbX4 ⊢
      have hVn : V ≠ w.heap.size + 2 := by omega
      clear hb4 o0 o1 hap st3 hbX p3 hsz3 hV hV3 hrg
      have HR0 := Lib.hid hr0; have HR1 := Lib.hid hr1
      clear hr0 hr1
      go_loopw [31] (fun v wm => ∃ i : Nat, i ≤ (aheadL g X).length ∧ v = .int .i64 i ∧ OrSt w Z C (some ⟨b, off, none⟩) L (accF g (L.take n) X i 0) wm ∧ HeldB wm V 108 (wlC X) ∧ CellsAt wm r0 ((aheadL g X).map (Value.int .i64)) ∧ CellsAt wm r1 ((behindL g X).map (Value.int .i64))) (fun v _ => (aheadL g X).length - (intOf v).toNat)
      case atStart => exact ⟨0, Nat.zero_le _, rfl, st4, hbX4, cA, cB⟩
      case round =>
        clear st4 hbX4 cA cB
        obtain ⟨i, hi, rfl, hst, hbX, cA, cB⟩ := hrel
        by_cases hil : i < (aheadL g X).length
        · obtain ⟨x, hx, hxr⟩ := HAX.out i hil
          obtain ⟨ab, ao, rfl, ca⟩ := cA i (.int .i64 (x : Int)) (by rw [List.getElem?_map, List.getElem?_eq_getElem hil, ← hx]; simp [hil])
          have hili : (i : Int) < ((aheadL g X).length : Int) := by omega
          go_wp2
          clear ca
          go_loopw [37] (fun v wm => ∃ j : Nat, j ≤ (behindL g X).length ∧ v = .int .i64 j ∧ OrSt w Z C (some ⟨b, off, none⟩) L (accF g (L.take n) X i j) wm ∧ HeldB wm V 108 (wlC X) ∧ CellsAt wm (some ⟨ab, ao, none⟩) ((aheadL g X).map (Value.int .i64)) ∧ CellsAt wm r1 ((behindL g X).map (Value.int .i64))) (fun v _ => (behindL g X).length - (intOf v).toNat)
          case atStart => exact ⟨0, Nat.zero_le _, rfl, hst, hbX, cA, cB⟩
          case round =>
            clear hst hbX cA cB
            obtain ⟨j, hj, rfl, hst, hbX, cA, cB⟩ := hrel
            by_cases hjl : j < (behindL g X).length
            · obtain ⟨y, hy, hyr⟩ := HBX.out j hjl
              obtain ⟨bb, bo, rfl, cb⟩ := cB j (.int .i64 (y : Int)) (by rw [List.getElem?_map, List.getElem?_eq_getElem hjl, ← hy]; simp [hjl])
              have hjli : (j : Int) < ((behindL g X).length : Int) := by omega
              have x0 : wr.cell? ⟨V, 0, none⟩ = some (.int .i64 (X.way : Nat)) := hbX.cell 0
              have f1 := hst.2.1.frozen (39 + X.way * 81 + x * 9 + y)
              have hx9 : x < 9 := by omega
              have hy9 : y < 9 := by omega
              have hx9i : (x : Int) < 9 := by omega
              have hy9i : (y : Int) < 9 := by omega
              have hst2 := hst.put HCS.out HRO2.out hw2 hx9 hy9 (HAP.out i j hil hjl x y hx hy)
              have hbX2 := hbX.other (a := ⟨w.heap.size + 2, 39 + X.way * 81 + x * 9 + y, none⟩) hVn (.bool true)
              have hgc := grownBy_cell wr (w.heap.size + 2) (39 + X.way * 81 + x * 9 + y) (.bool true)
              have cA2 := cA.grown hgc (fun z hz e => HR0.out z hz (Option.some.inj e))
              have cB2 := cB.grown hgc (fun z hz e => HR1.out z hz (Option.some.inj e))
              have k1 : wr.cell? ⟨w.heap.size + 2, 39 + X.way * 81 + x * 9 + y, none⟩ = some (.bool (accF g (L.take n) X i j X.way x y)) := (hst.2.1.cell _).trans (ordC_at HCS.out _ hw2 hx9 hy9)
              clear hst hbX hgc cA cB
              go_wp2
              go_roundw
              case rel => exact ⟨j + 1, by omega, by go_num, hst2, hbX2, cA2, cB2⟩
              case measure => simp [intOf]; omega
            · obtain rfl : j = (behindL g X).length := by omega
              rw [HAROW.out i hil] at hst
              go_wp2
              go_roundw
              case rel => exact ⟨i + 1, by omega, by go_num, hst, hbX, cA, cB⟩
              case measure => simp [intOf]; omega
        · obtain rfl : i = (aheadL g X).length := by omega
          rw [HNX.out] at hst
          go_wp2
          go_roundw
          case rel => exact ⟨n + 1, by omega, by go_num, hst⟩
          case measure => simp [intOf]; omega
    · obtain rfl : n = L.length := by omega
      rw [List.take_length] at hst
      obtain ⟨F, hF⟩ : ∃ F : Nat → Nat → Nat → Bool, F = fun way => justL g way L := ⟨_, rfl⟩
      rw [← hF] at hst
      have HF := Lib.hid hF; clear hF
      have HL0 := Lib.hid (HLO.out (w.heap.size + 2) F 0 wr (by omega) (by rw [HF.out]; exact fun a b e => HIN.out 0 a b (by rw [HJG.out]; exact e)) hst.2.1)
      have HL1 := Lib.hid (fun (w5 : World) h5 => HLO.out (w.heap.size + 2) (wayF' F 0 (wars (F 0) r)) 1 w5 (by omega) (by unfold wayF'; rw [HF.out]; exact fun a b e => HIN.out 1 a b (by rw [HJG.out]; exact e)) h5)
      obtain ⟨F1, hF1⟩ : ∃ F1, F1 = wayF' F 0 (wars (F 0) r) := ⟨_, rfl⟩
      rw [← hF1] at HL0 HL1
      obtain ⟨F2, hF2⟩ : ∃ F2, F2 = wayF' F1 1 (wars (F1 1) r) := ⟨_, rfl⟩
      rw [← hF2] at HL1
      have HFF := Lib.hid (show ordC C F2 = ordC C (fun way => lead way) from ordC_same fun w a b hw _ _ => by
        rw [hF2, hF1, HDEF.out]
        unfold wayF'
        rw [HF.out]
        rcases (show w = 0 ∨ w = 1 by omega) with rfl | rfl
        · simp
        · simp)
      clear hF1 hF2
      have HA2 := Lib.hid (HI2.out F2)
      have HB2 := Lib.hid (HSO.out F2)
      have HC2 := Lib.hid (HO1.out F2)
      have hz := hst.1
      have hbl := hst.2.2.2.1
      have hsz := hst.2.2.2.2
      clear hst HWA HSI HAR HBR HFE HWY HI2 HSO HO1 HLO HIN HJG HDEF HF
      generalize ordC C F2 = D2 at *
      go_wp2_with (first
        | (go_at_call 71; refine (HL2.out).mono ?_; rintro e w6 ⟨rfl, hb6, hg6⟩; have hz6 := (hz.kept hg5 (by simp)).kept hg6 (by simp))
        | (go_at_call 71; refine HL0.out.mono ?_; rintro e w5 ⟨rfl, hb5, hg5⟩; have HL2 := Lib.hid (HL1.out w5 hb5))
        | (refine wpList_load_row rfl 52 _ rfl (w.heap.size + 2) rfl 52 D2 (0, 0) _ hb6 Try.underlying52 rfl HA2.out ?_)
        | (refine wpList_store_row rfl 52 _ _ rfl (w.heap.size + 1) D2 rfl rfl 52 Z hz6 HA2.out (by rw [HZS.out, HB2.out]) HC2.out ?_))
      have hk : ∀ k, some (w.heap.size + 2) = some k → w.heap.size ≤ k := fun k hk => by have := Option.some.inj hk; omega
      have hg56 := grownBy_trans hg5 hg6
      refine bodyPost_ret (v := .agg D2) (results_ord Try.results35 rfl (hz6.setRow D2) HB2.out) rfl ⟨by rw [HFF.out], ?_⟩
      exact below_setRowB (hbl.trans (below_of_grownBy hg56 hbl.size hk)) (by omega) _
end Go.Proofs.Ytpgcpmfemcfoaaa

/-
  Merged texts: OrdP OrdQ OrdX.
-/
/-
  Plain plans read, and which room leads to which. (Walks.)
-/
namespace Go.Proofs.Ytpgcpmfemcfoaaa
open Go.RowKit

def plainB (p : List ByteArray) : Bool := planB p && decide (meetN p 4 = 0)
theorem plainB_plan {p : List ByteArray} (h : plainB p = true) : planB p = true := by unfold plainB at h; rw [Bool.and_eq_true] at h; exact h.1
/-- what the order of a list is: none, if it is no plain plan -/
def oH (p : List ByteArray) : Nat := if plainB p = true then p.length else 0
def oW (p : List ByteArray) : Nat := if plainB p = true then wideB p else 0
def oR (p : List ByteArray) : Nat := if plainB p = true then gridR p else 0
def oG (p : List ByteArray) : Nat → Nat → Nat := if plainB p = true then gridG p else fun _ _ => 0
def oF (p : List ByteArray) : Nat → Nat → Nat → Bool := if plainB p = true then ledF p.length (wideB p) (gridR p) (gridG p) else noF
def ordP (p : List ByteArray) : Array Value := ordC (planC (oH p) (oW p) (oR p) (oG p)) (oF p)
theorem ordP_yes {p : List ByteArray} (h : plainB p = true) : ordP p = ordC (planC p.length (wideB p) (gridR p) (gridG p)) (ledF p.length (wideB p) (gridR p) (gridG p)) := by
  unfold ordP oH oW oR oG oF; rw [if_pos h, if_pos h, if_pos h, if_pos h, if_pos h]

set_option maxRecDepth 100000 in
set_option maxHeartbeats 1600000 in
theorem isPlain_any (h wd r : Nat) (g : Nat → Nat → Nat) (w : World) (hh : h ≤ 6) (hw : wd ≤ 6) :
    Calls Try.prog 33 #[.agg (planC h wd r g)] w fun e w' => e = .returned (.bool (decide (crossG h wd g = 0))) ∧ Below w.heap.size w w' := by
  have HME := Lib.hid (fun w => meetings_any h wd r g w hh hw)
  have HPS := Lib.hid (plan_size h wd r g)
  have hP := HeldB.new w 47 (planC h wd r g)
  generalize crossG h wd g = n at *
  generalize teeG h wd g = m at *
  generalize endG h wd g = k at *
  generalize planC h wd r g = C at *
  have hd : ((n : Int) == 0) = decide (n = 0) := by rw [Bool.eq_iff_iff, beq_iff_eq, decide_eq_true_eq]; omega
  have HD := Lib.hid hd; clear hd
  have hf : ∀ w, (Instr.field 103 (.agg (mtC n m k)) 0).run Try.prog w = .ok (.int .i64 (n : Nat)) w := fun _ => by kernel_rfl
  go_enter Try.func33, Try.ntmps33
  go_wp2_with (first
    | (refine wpList_load_row rfl 47 _ rfl w.heap.size rfl 47 C (0, 0) _ hP Try.underlying47 rfl HPS.out ?_)
    | (go_at_call 68; refine (HME.out _).mono ?_; rintro e w1 ⟨rfl, hb1⟩))
  go_ret
  refine ⟨ret_bool ?_, (below_alloc w (.cells C 47)).trans (hb1.mono (by simp))⟩
  rw [← HD.out]

end Go.Proofs.Ytpgcpmfemcfoaaa

/-
  The program's answers about two rooms: left, above, the kind. (Walks.)
-/
namespace Go.Proofs.Ytpgcpmfemcfoaaa
open Go.RowKit

theorem oR_le (p : List ByteArray) : oR p ≤ 9 := by
  unfold oR; split
  · rename_i h; exact (planP_of (plainB_plan h)).few
  · omega
end Go.Proofs.Ytpgcpmfemcfoaaa

/-
  What of two rooms of a plain list there is. (Plain mathematics.)
-/
namespace Go.Proofs.Ytpgcpmfemcfoaaa

/-- plain plans have no cross -/
theorem noX_of {p : List ByteArray} (h : plainB p = true) : NoX p.length (wideB p) (gridG p) := by
  have hp := plainB_plan h
  have hP := planP_of hp
  have h0 : meetN p 4 = 0 := by
    unfold plainB at h; rw [Bool.and_eq_true, decide_eq_true_eq] at h; exact h.2
  unfold meetN at h0
  rw [if_pos hp, pts_grid hP] at h0
  intro i k i1 i2 k1 k2 ⟨a1, a2, a3, a4⟩
  have hr := hP.rectG
  have hz : metG (gridG p) 4 i k = false := by
    unfold ptsG at h0
    rw [List.sum_eq_zero_iff_forall_eq_nat] at h0
    have := h0 _ (List.mem_map.2 ⟨i, List.mem_range.2 i2, rfl⟩)
    rw [List.countP_eq_zero] at this
    simpa using this k (List.mem_range.2 k2)
  have d1 : gridG p i (k - 1) ≠ gridG p (i - 1) k := fun e => by
    have := rect_two hr (i := i - 1) (j := k) (i' := i) (j' := k - 1) (by omega) k2 i2 (by omega) e
    exact a1 this.1
  have d2 : gridG p i k ≠ gridG p (i - 1) (k - 1) := fun e => by
    have := rect_two hr (i := i - 1) (j := k - 1) (i' := i) (j' := k) (by omega) (by omega) i2 k2 e
    exact a1 this.1.symm
  unfold metG meetG b2n at hz
  rw [decide_eq_true i1, decide_eq_true k1] at hz
  simp only [Bool.true_and, decide_eq_false_iff_not] at hz
  apply hz
  rw [decide_eq_true (show gridG p (i - 1) k ≠ gridG p (i - 1) (k - 1) from fun e => a1 e.symm), decide_eq_true (show gridG p i (k - 1) ≠ gridG p (i - 1) (k - 1) from fun e => a3 e.symm), decide_eq_true d1, decide_eq_true d2,
    decide_eq_true (show gridG p i k ≠ gridG p (i - 1) k from fun e => a4 e.symm), decide_eq_true (show gridG p i k ≠ gridG p i (k - 1) from fun e => a2 e.symm)]
  rfl
/-- leads of plans -/
def pL (p : List ByteArray) (way : Nat) : Nat → Nat → Bool := leadG p.length (wideB p) (gridR p) (gridG p) way
theorem pL_left {p : List ByteArray} {a b : Nat} : pL p 0 a b = true ↔ LL p.length (wideB p) (gridG p) a b := leadG_left (fun _ _ hi hj => gridG_lt hi hj)
theorem pL_above {p : List ByteArray} {a b : Nat} : pL p 1 a b = true ↔ AA p.length (wideB p) (gridG p) a b := leadG_above (fun _ _ hi hj => gridG_lt hi hj)
theorem room_at {p : List ByteArray} {a : Nat} (ha : a < gridR p) : ∃ i j, i < p.length ∧ j < wideB p ∧ gridG p i j = a := room_cell (m := markN p) ha
theorem pL_self {p : List ByteArray} (h : plainB p = true) {a : Nat} (ha : a < gridR p) (way : Nat) (hw : way < 2) : pL p way a a = false := by
  have hr := (planP_of (plainB_plan h)).rectG
  obtain ⟨i, j, hi, hj, rfl⟩ := room_at ha
  rw [Bool.eq_false_iff]
  rcases (show way = 0 ∨ way = 1 by omega) with rfl | rfl
  · rw [Ne, pL_left]
    intro e
    exact Nat.lt_irrefl _ (left_cols hr (noX_of h) hi hj hi hj e)
  · rw [Ne, pL_above]
    intro e
    exact Nat.lt_irrefl _ (above_rows hr (noX_of h) hi hj hi hj e)
theorem pL_some {p : List ByteArray} (h : planB p = true) {a b : Nat} (ha : a < gridR p) (hb : b < gridR p) (hne : a ≠ b) : pL p 0 a b = true ∨ pL p 0 b a = true ∨ pL p 1 a b = true ∨ pL p 1 b a = true := by
  rw [pL_left, pL_left, pL_above, pL_above]
  obtain ⟨i, j, hi, hj, rfl⟩ := room_at ha
  obtain ⟨x, y, hx, hy, rfl⟩ := room_at hb
  exact some_order (planP_of h).rectG hi hj hx hy hne
theorem pL_one {p : List ByteArray} (h : plainB p = true) {a b : Nat} (ha : a < gridR p) (hb : b < gridR p) (hl : pL p 0 a b = true) : pL p 0 b a = false ∧ pL p 1 a b = false ∧ pL p 1 b a = false := by
  have hr := (planP_of (plainB_plan h)).rectG
  have nx := noX_of h
  have hA := room_at ha
  have hB := room_at hb
  rw [pL_left] at hl
  refine ⟨?_, ?_, ?_⟩
  · rw [Bool.eq_false_iff, Ne, pL_left]
    intro e
    obtain ⟨i, j, hi, hj, rfl⟩ := hA
    obtain ⟨x, y, hx, hy, rfl⟩ := hB
    exact Nat.lt_asymm (left_cols hr nx hi hj hx hy hl) (left_cols hr nx hx hy hi hj e)
  · rw [Bool.eq_false_iff, Ne, pL_above]; exact fun e => not_both hr nx hA hB ⟨hl, e⟩
  · rw [Bool.eq_false_iff, Ne, pL_above]; exact fun e => not_cross hr nx hA hB ⟨hl, e⟩
theorem pL_over {p : List ByteArray} (h : plainB p = true) {a b : Nat} (ha : a < gridR p) (hb : b < gridR p) (hl : pL p 1 a b = true) : pL p 1 b a = false ∧ pL p 0 a b = false ∧ pL p 0 b a = false := by
  have hr := (planP_of (plainB_plan h)).rectG
  have nx := noX_of h
  refine ⟨?_, ?_, ?_⟩
  · rw [pL_above] at hl
    rw [Bool.eq_false_iff, Ne, pL_above]
    intro e
    obtain ⟨i, j, hi, hj, rfl⟩ := room_at ha
    obtain ⟨x, y, hx, hy, rfl⟩ := room_at hb
    exact Nat.lt_asymm (above_rows hr nx hi hj hx hy hl) (above_rows hr nx hx hy hi hj e)
  · rw [Bool.eq_false_iff]; intro e; rw [(pL_one h ha hb e).2.1] at hl; cases hl
  · rw [Bool.eq_false_iff]; intro e; rw [(pL_one h hb ha e).2.2] at hl; cases hl
theorem pL_trans {p : List ByteArray} {way a b c : Nat} (hw : way < 2) (h1 : pL p way a b = true) (h2 : pL p way b c = true) : pL p way a c = true := by
  rcases (show way = 0 ∨ way = 1 by omega) with rfl | rfl
  · rw [pL_left] at *; exact Relation.TransGen.trans h1 h2
  · rw [pL_above] at *; exact Relation.TransGen.trans h1 h2

end Go.Proofs.Ytpgcpmfemcfoaaa
