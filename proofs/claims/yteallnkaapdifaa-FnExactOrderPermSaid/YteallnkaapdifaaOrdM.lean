
/-
  Rooms that lead to rooms: just over walls, and by way of others. (Plain mathematics.)
-/
import Derived.Test.YteallnkaapdifaaSpecWX
import Derived.Test.YteallnkaapdifaaOutl
namespace Go.Proofs.Yteallnkaapdifaa
open Go.RowKit

/-- by way of the first rooms: what comes of leading on over them, one behind the other -/
def wars (f : Nat → Nat → Bool) : Nat → Nat → Nat → Bool
  | 0, a, b => f a b
  | c + 1, a, b => wars f c a b || (wars f c a c && wars f c c b)
theorem wars_succ (f : Nat → Nat → Bool) (c a b : Nat) : wars f (c + 1) a b = (wars f c a b || (wars f c a c && wars f c c b)) := rfl
theorem wars_to (f : Nat → Nat → Bool) (c a : Nat) : wars f (c + 1) a c = wars f c a c := by
  rw [wars_succ]; cases wars f c a c <;> simp
theorem wars_from (f : Nat → Nat → Bool) (c b : Nat) : wars f (c + 1) c b = wars f c c b := by
  rw [wars_succ]; cases wars f c c b <;> simp
/-- no room out of bounds is led to -/
theorem wars_in {f : Nat → Nat → Bool} {n : Nat} (h : ∀ a b, f a b = true → a < n ∧ b < n) : ∀ c a b, wars f c a b = true → a < n ∧ b < n
  | 0, a, b, hw => h a b hw
  | c + 1, a, b, hw => by
    rw [wars_succ, Bool.or_eq_true, Bool.and_eq_true] at hw
    rcases hw with hw | ⟨h1, h2⟩
    · exact wars_in h c a b hw
    · exact ⟨(wars_in h c a c h1).1, (wars_in h c c b h2).2⟩
/-- what goes up along all leads goes up along all ways -/
theorem wars_up {f : Nat → Nat → Bool} {m : Nat → Nat} (h : ∀ a b, f a b = true → m a < m b) : ∀ c a b, wars f c a b = true → m a < m b
  | 0, a, b, hw => h a b hw
  | c + 1, a, b, hw => by
    rw [wars_succ, Bool.or_eq_true, Bool.and_eq_true] at hw
    rcases hw with hw | ⟨h1, h2⟩
    · exact wars_up h c a b hw
    · have := wars_up h c a c h1; have := wars_up h c c b h2; omega

/-- the rooms ahead of a wall and behind it -/
def aheadL (g : Nat → Nat → Nat) (X : Wl) : List Int := compactL (cellsA g X X.long)
def behindL (g : Nat → Nat → Nat) (X : Wl) : List Int := compactL (cellsB' g X X.long)
/-- over one wall -/
def overW (g : Nat → Nat → Nat) (way : Nat) (X : Wl) (a b : Nat) : Bool := (X.way == way) && ((aheadL g X).contains (a : Int) && (behindL g X).contains (b : Int))
/-- over some walls -/
def justL (g : Nat → Nat → Nat) (way : Nat) (L : List Wl) (a b : Nat) : Bool := L.any fun X => overW g way X a b
theorem justL_snoc (g : Nat → Nat → Nat) (way : Nat) (L : List Wl) (X : Wl) (a b : Nat) : justL g way (L ++ [X]) a b = (justL g way L a b || overW g way X a b) := by
  unfold justL; rw [List.any_append]; simp
/-- over one wall, as far as the pairs have been gone through -/
def partW (g : Nat → Nat → Nat) (X : Wl) (i j : Nat) (a b : Nat) : Bool :=
  (((aheadL g X).take i).contains (a : Int) && (behindL g X).contains (b : Int)) || (decide (i < (aheadL g X).length ∧ (aheadL g X).getD i 0 = (a : Int)) && ((behindL g X).take j).contains (b : Int))

/-- a pair of rooms told to lead -/
def setP (f : Nat → Nat → Bool) (x y a b : Nat) : Bool := f a b || decide (a = x ∧ b = y)
theorem contains_take {L : List Int} {i : Nat} (h : i < L.length) (a : Int) : (L.take (i + 1)).contains a = ((L.take i).contains a || decide (L.getD i 0 = a)) := by
  rw [take_snoc L i 0 h, List.contains_eq_mem, List.contains_eq_mem]
  rw [Bool.eq_iff_iff]
  simp only [decide_eq_true_eq, Bool.or_eq_true, List.mem_append, List.mem_singleton]
  constructor
  · rintro (h | h)
    · exact .inl h
    · exact .inr h.symm
  · rintro (h | h)
    · exact .inl h
    · exact .inr h.symm
theorem partW_zero (g : Nat → Nat → Nat) (X : Wl) (a b : Nat) : partW g X 0 0 a b = false := by simp [partW]
theorem partW_step {g : Nat → Nat → Nat} {X : Wl} {i j : Nat} (hi : i < (aheadL g X).length) (hj : j < (behindL g X).length) {x y : Nat} (hx : (aheadL g X).getD i 0 = (x : Int)) (hy : (behindL g X).getD j 0 = (y : Int)) (a b : Nat) :
    partW g X i (j + 1) a b = (partW g X i j a b || decide (a = x ∧ b = y)) := by
  unfold partW
  rw [contains_take hj, hx, hy]
  rw [Bool.eq_iff_iff]
  simp only [Bool.or_eq_true, Bool.and_eq_true, decide_eq_true_eq, List.contains_eq_mem]
  constructor
  · rintro (h | ⟨h1, h2 | h2⟩)
    · exact .inl (.inl h)
    · exact .inl (.inr ⟨h1, h2⟩)
    · exact .inr (by omega)
  · rintro ((h | ⟨h1, h2⟩) | h)
    · exact .inl h
    · exact .inr ⟨h1, .inl h2⟩
    · exact .inr ⟨⟨hi, by omega⟩, .inr (by omega)⟩
theorem partW_row {g : Nat → Nat → Nat} {X : Wl} {i : Nat} (hi : i < (aheadL g X).length) (a b : Nat) : partW g X (i + 1) 0 a b = partW g X i (behindL g X).length a b := by
  unfold partW
  rw [contains_take hi, List.take_zero, List.take_length]
  rw [Bool.eq_iff_iff]
  simp only [Bool.or_eq_true, Bool.and_eq_true, decide_eq_true_eq, List.contains_eq_mem, List.not_mem_nil, and_false, or_false]
  constructor
  · rintro ⟨h1 | h1, h2⟩
    · exact .inl ⟨h1, h2⟩
    · exact .inr ⟨⟨hi, h1⟩, h2⟩
  · rintro (⟨h1, h2⟩ | ⟨⟨_, h1⟩, h2⟩)
    · exact ⟨.inl h1, h2⟩
    · exact ⟨.inr h1, h2⟩
theorem partW_all {g : Nat → Nat → Nat} {X : Wl} (a b : Nat) : partW g X (aheadL g X).length 0 a b = ((aheadL g X).contains (a : Int) && (behindL g X).contains (b : Int)) := by
  unfold partW; rw [List.take_length, List.take_zero]; simp

/-- rooms of sides are rooms -/
theorem ahead_mem {g : Nat → Nat → Nat} {X : Wl} {x : Int} (h : x ∈ aheadL g X) : ∃ s, s < X.long ∧ x = ((sideA g X.way X.line (X.first + s) : Nat) : Int) := by
  have key : ∀ n x, x ∈ compactL (cellsA g X n) → ∃ s, s < n ∧ x = ((sideA g X.way X.line (X.first + s) : Nat) : Int) := fun n => by
    induction n with
    | zero => intro x h; simp [compactL, cellsA] at h
    | succ n ih =>
      intro x h
      rw [cellsA_succ, compactL_snoc] at h
      unfold putL at h
      split at h
      · obtain ⟨s, s1, s2⟩ := ih x h; exact ⟨s, by omega, s2⟩
      · rw [List.mem_append, List.mem_singleton] at h
        rcases h with h | h
        · obtain ⟨s, s1, s2⟩ := ih x h; exact ⟨s, by omega, s2⟩
        · exact ⟨n, by omega, h⟩
  exact key _ _ h
theorem behind_mem {g : Nat → Nat → Nat} {X : Wl} {x : Int} (h : x ∈ behindL g X) : ∃ s, s < X.long ∧ x = ((sideB g X.way X.line (X.first + s) : Nat) : Int) := by
  have key : ∀ n x, x ∈ compactL (cellsB' g X n) → ∃ s, s < n ∧ x = ((sideB g X.way X.line (X.first + s) : Nat) : Int) := fun n => by
    induction n with
    | zero => intro x h; simp [compactL, cellsB'] at h
    | succ n ih =>
      intro x h
      rw [cellsB_succ, compactL_snoc] at h
      unfold putL at h
      split at h
      · obtain ⟨s, s1, s2⟩ := ih x h; exact ⟨s, by omega, s2⟩
      · rw [List.mem_append, List.mem_singleton] at h
        rcases h with h | h
        · obtain ⟨s, s1, s2⟩ := ih x h; exact ⟨s, by omega, s2⟩
        · exact ⟨n, by omega, h⟩
  exact key _ _ h
theorem sides_room {h wd r : Nat} {g : Nat → Nat → Nat} (hg : ∀ i j, i < h → j < wd → g i j < r) {X : Wl} (hX : X ∈ wallsG h wd g) {s : Nat} (hs : s < X.long) : sideA g X.way X.line (X.first + s) < r ∧ sideB g X.way X.line (X.first + s) < r := by
  obtain ⟨m1, m2, m3, m4, m5, m6⟩ := wallsG_mem hX
  unfold acrossN at m3
  unfold alongN at m5
  unfold sideA sideB
  rcases (show X.way = 0 ∨ X.way = 1 by omega) with hw0 | hw0
  · rw [hw0] at m3 m5 ⊢
    simp only [if_true] at m3 m5 ⊢
    exact ⟨hg _ _ (by omega) (by omega), hg _ _ (by omega) (by omega)⟩
  · rw [hw0] at m3 m5 ⊢
    simp only [Nat.one_ne_zero, if_false] at m3 m5 ⊢
    exact ⟨hg _ _ (by omega) (by omega), hg _ _ (by omega) (by omega)⟩
theorem ahead_room {h wd r : Nat} {g : Nat → Nat → Nat} (hg : ∀ i j, i < h → j < wd → g i j < r) {X : Wl} (hX : X ∈ wallsG h wd g) {i : Nat} (hi : i < (aheadL g X).length) : ∃ x : Nat, (aheadL g X).getD i 0 = (x : Int) ∧ x < r := by
  obtain ⟨s, hs, e⟩ := ahead_mem (getD_mem 0 hi)
  exact ⟨_, e, (sides_room hg hX hs).1⟩
theorem behind_room {h wd r : Nat} {g : Nat → Nat → Nat} (hg : ∀ i j, i < h → j < wd → g i j < r) {X : Wl} (hX : X ∈ wallsG h wd g) {i : Nat} (hi : i < (behindL g X).length) : ∃ x : Nat, (behindL g X).getD i 0 = (x : Int) ∧ x < r := by
  obtain ⟨s, hs, e⟩ := behind_mem (getD_mem 0 hi)
  exact ⟨_, e, (sides_room hg hX hs).2⟩
theorem sides_few {h wd : Nat} {g : Nat → Nat → Nat} (hh : h ≤ 6) (hw : wd ≤ 6) {X : Wl} (hX : X ∈ wallsG h wd g) : (aheadL g X).length ≤ 6 ∧ (behindL g X).length ≤ 6 := by
  obtain ⟨m1, m2, m3, m4, m5, m6⟩ := wallsG_mem hX
  have k1 := compactL_len (cellsA g X X.long)
  have k2 := compactL_len (cellsB' g X X.long)
  have k3 : alongN h wd X.way ≤ 6 := by unfold alongN; split <;> omega
  rw [cellsA_len] at k1
  rw [cellsB_len] at k2
  unfold aheadL behindL
  omega

/-- the rooms to which a room leads just over walls, and in the end -/
def justG (h wd : Nat) (g : Nat → Nat → Nat) (way : Nat) : Nat → Nat → Bool := justL g way (wallsG h wd g)
def leadG (h wd r : Nat) (g : Nat → Nat → Nat) (way : Nat) : Nat → Nat → Bool := wars (justG h wd g way) r
theorem justL_in {h wd r : Nat} {g : Nat → Nat → Nat} (hg : ∀ i j, i < h → j < wd → g i j < r) (way : Nat) {L : List Wl} (hL : ∀ X ∈ L, X ∈ wallsG h wd g) : ∀ a b, justL g way L a b = true → a < r ∧ b < r := fun a b h => by
  unfold justL at h
  obtain ⟨X, hX, ho⟩ := List.any_eq_true.1 h
  unfold overW at ho
  rw [Bool.and_eq_true, Bool.and_eq_true, List.contains_eq_mem, List.contains_eq_mem, decide_eq_true_eq, decide_eq_true_eq] at ho
  obtain ⟨s, hs, e⟩ := ahead_mem ho.2.1
  obtain ⟨t, ht, e2⟩ := behind_mem ho.2.2
  have h1 := (sides_room hg (hL X hX) hs).1
  have h2 := (sides_room hg (hL X hX) ht).2
  omega
theorem justG_in {h wd r : Nat} {g : Nat → Nat → Nat} (hg : ∀ i j, i < h → j < wd → g i j < r) (way : Nat) : ∀ a b, justG h wd g way a b = true → a < r ∧ b < r := justL_in hg way (fun _ h => h)

/-- what is told once the first walls are gone through, and of the next one the first pairs -/
def accF (g : Nat → Nat → Nat) (L : List Wl) (X : Wl) (i j : Nat) : Nat → Nat → Nat → Bool := fun way a b => justL g way L a b || ((X.way == way) && partW g X i j a b)
theorem accF_zero (g : Nat → Nat → Nat) (L : List Wl) (X : Wl) : accF g L X 0 0 = fun way => justL g way L := by
  funext way a b; unfold accF; rw [partW_zero]; simp
theorem accF_row {g : Nat → Nat → Nat} {X : Wl} {i : Nat} (L : List Wl) (hi : i < (aheadL g X).length) : accF g L X i (behindL g X).length = accF g L X (i + 1) 0 := by
  funext way a b; unfold accF; rw [partW_row hi]
theorem accF_all (g : Nat → Nat → Nat) (L : List Wl) (X : Wl) : accF g L X (aheadL g X).length 0 = fun way => justL g way (L ++ [X]) := by
  funext way a b; unfold accF; rw [partW_all, justL_snoc]; rfl
theorem accF_put {g : Nat → Nat → Nat} {X : Wl} {i j : Nat} (L : List Wl) (hi : i < (aheadL g X).length) (hj : j < (behindL g X).length) {x y : Nat} (hx : (aheadL g X).getD i 0 = (x : Int)) (hy : (behindL g X).getD j 0 = (y : Int)) :
    (fun w a b => if w = X.way ∧ a = x ∧ b = y then true else accF g L X i j w a b) = accF g L X i (j + 1) := by
  funext w a b
  unfold accF
  rw [partW_step hi hj hx hy]
  by_cases h1 : X.way = w
  · subst h1
    simp only [BEq.rfl, Bool.true_and, true_and]
    by_cases h2 : a = x ∧ b = y
    · rw [if_pos h2, decide_eq_true h2]; simp
    · rw [if_neg h2, decide_eq_false h2, Bool.or_false]
  · rw [if_neg (fun e => h1 e.1.symm), beq_false_of_ne h1]; rfl
end Go.Proofs.Yteallnkaapdifaa
