
/-
  Neighbours with the lengths along which they lie: lists in order, one cell more. (Plain mathematics.)
-/
import Derived.Test.YtjcbfijliacicaaCut
namespace Go.Proofs.Ytjcbfijliacicaa
open Go.RowKit

theorem getD_appL {α : Type} {l k : List α} {i : Nat} (z : α) (h : i < l.length) : (l ++ k).getD i z = l.getD i z := by
  rw [List.getD_eq_getElem?_getD, List.getD_eq_getElem?_getD, List.getElem?_append_left h]
theorem getD_appR {α : Type} {l k : List α} {i : Nat} (z : α) (h : l.length ≤ i) : (l ++ k).getD i z = k.getD (i - l.length) z := by
  rw [List.getD_eq_getElem?_getD, List.getD_eq_getElem?_getD, List.getElem?_append_right h]

/-- those of some rooms that have a length, with it -/
def lnkL (l : List Nat) (f : Nat → Nat) : List (Nat × Nat) := (l.filter fun b => decide (0 < f b)).map fun b => (b, f b)
/-- all rooms that have a length, in order, with it -/
def lnk (n : Nat) (f : Nat → Nat) : List (Nat × Nat) := lnkL (List.range n) f
/-- a length one greater -/
def up1 (f : Nat → Nat) (b : Nat) : Nat → Nat := fun x => if x = b then f x + 1 else f x
/-- where a room stands, or would stand -/
def lnkAt (b : Nat) (f : Nat → Nat) : Nat := (lnkL (List.range b) f).length

theorem lnkL_append (l k : List Nat) (f : Nat → Nat) : lnkL (l ++ k) f = lnkL l f ++ lnkL k f := by simp [lnkL]
theorem lnkL_congr {l : List Nat} {f g : Nat → Nat} (h : ∀ b ∈ l, f b = g b) : lnkL l f = lnkL l g := by
  unfold lnkL
  have h1 : (l.filter fun b => decide (0 < f b)) = l.filter fun b => decide (0 < g b) := List.filter_congr fun b hb => by rw [h b hb]
  rw [h1]
  exact List.map_congr_left fun b hb => by rw [h b (List.mem_filter.1 hb).1]
theorem lnkL_mem {l : List Nat} {f : Nat → Nat} {x : Nat × Nat} (h : x ∈ lnkL l f) : x.1 ∈ l ∧ 0 < f x.1 ∧ x.2 = f x.1 := by
  unfold lnkL at h
  obtain ⟨b, hb, rfl⟩ := List.mem_map.1 h
  obtain ⟨h1, h2⟩ := List.mem_filter.1 hb
  exact ⟨h1, by simpa using h2, rfl⟩
theorem lnkL_len (l : List Nat) (f : Nat → Nat) : (lnkL l f).length ≤ l.length := by
  unfold lnkL; rw [List.length_map]; exact List.length_filter_le _ _
theorem lnk_len (n : Nat) (f : Nat → Nat) : (lnk n f).length ≤ n := by have := lnkL_len (List.range n) f; simpa [lnk] using this
theorem range_three {n b : Nat} (h : b < n) : List.range n = List.range b ++ [b] ++ List.range' (b + 1) (n - b - 1) := by
  rw [List.range_eq_range', List.range_eq_range']
  rw [show n = b + (1 + (n - b - 1)) from by omega, ← List.range'_append_1, ← List.range'_append_1, Nat.zero_add]
  rw [show b + (1 + (n - b - 1)) - b - 1 = n - b - 1 from by omega, List.append_assoc]
  rfl
theorem lnk_split {n b : Nat} (h : b < n) (f : Nat → Nat) : lnk n f = lnkL (List.range b) f ++ (if 0 < f b then [(b, f b)] else []) ++ lnkL (List.range' (b + 1) (n - b - 1)) f := by
  unfold lnk
  rw [range_three h, lnkL_append, lnkL_append]
  congr 2
  by_cases hb : 0 < f b <;> simp [lnkL, hb]
theorem lnkAt_le {n b : Nat} (h : b < n) (f : Nat → Nat) : lnkAt b f ≤ (lnk n f).length := by
  rw [lnk_split h f, List.append_assoc, List.length_append]; exact Nat.le_add_right _ _
theorem lnk_mem {n : Nat} {f : Nat → Nat} {x : Nat × Nat} (h : x ∈ lnk n f) : x.1 < n ∧ 0 < f x.1 ∧ x.2 = f x.1 := by
  have := lnkL_mem h; exact ⟨by simpa using this.1, this.2⟩

/-- ahead of its place stand smaller rooms -/
theorem lnk_ahead {n b : Nat} (h : b < n) (f : Nat → Nat) {j : Nat} (hj : j < lnkAt b f) : ((lnk n f).getD j (0, 0)).1 < b := by
  have : (lnk n f).getD j (0, 0) ∈ lnkL (List.range b) f := by
    rw [lnk_split h f, List.append_assoc, getD_appL _ hj]
    exact getD_mem _ hj
  simpa using (lnkL_mem this).1
/-- from its place on stand others that are no smaller -/
theorem lnk_behind {n b : Nat} (h : b < n) (f : Nat → Nat) {j : Nat} (hj : lnkAt b f ≤ j) (hl : j < (lnk n f).length) : b ≤ ((lnk n f).getD j (0, 0)).1 := by
  have : (lnk n f).getD j (0, 0) ∈ (if 0 < f b then [(b, f b)] else []) ++ lnkL (List.range' (b + 1) (n - b - 1)) f := by
    rw [lnk_split h f, List.append_assoc] at hl ⊢
    rw [getD_appR _ hj]
    rw [List.length_append] at hl
    exact getD_mem _ (by unfold lnkAt at hj; omega)
  rw [List.mem_append] at this
  rcases this with h1 | h1
  · split at h1
    · rw [List.mem_singleton] at h1; rw [h1]; exact Nat.le_refl _
    · simp at h1
  · have := (lnkL_mem h1).1
    rw [List.mem_range'_1] at this
    omega
/-- it is there just if it has a length -/
theorem lnk_there {n b : Nat} (h : b < n) (f : Nat → Nat) (hf : 0 < f b) : lnkAt b f < (lnk n f).length ∧ (lnk n f).getD (lnkAt b f) (0, 0) = (b, f b) := by
  rw [lnk_split h f, if_pos hf, List.append_assoc]
  refine ⟨by rw [List.length_append, List.length_append]; unfold lnkAt; simp only [List.length_singleton]; omega, ?_⟩
  unfold lnkAt
  rw [getD_appR _ (Nat.le_refl _), Nat.sub_self]; rfl
theorem lnk_not {n b : Nat} (h : b < n) (f : Nat → Nat) (hf : f b = 0) {j : Nat} (hj : lnkAt b f ≤ j) (hl : j < (lnk n f).length) : b < ((lnk n f).getD j (0, 0)).1 := by
  have h1 := lnk_behind h f hj hl
  rcases Nat.lt_or_ge b ((lnk n f).getD j (0, 0)).1 with h2 | h2
  · exact h2
  · have h3 := lnk_mem (getD_mem (0, 0) hl)
    have : ((lnk n f).getD j (0, 0)).1 = b := by omega
    rw [this] at h3
    omega
theorem up1_self (f : Nat → Nat) (b : Nat) : up1 f b b = f b + 1 := if_pos rfl
theorem up1_other (f : Nat → Nat) {b x : Nat} (h : x ≠ b) : up1 f b x = f x := if_neg h
theorem lnkAt_up (b : Nat) (f : Nat → Nat) : lnkL (List.range b) (up1 f b) = lnkL (List.range b) f := lnkL_congr fun x hx => up1_other f (by have := List.mem_range.1 hx; omega)
theorem lnkR_up (b m : Nat) (f : Nat → Nat) : lnkL (List.range' (b + 1) m) (up1 f b) = lnkL (List.range' (b + 1) m) f := lnkL_congr fun x hx => up1_other f (by have := List.mem_range'_1.1 hx; omega)
/-- one cell more where it is there -/
theorem lnk_more {n b : Nat} (h : b < n) (f : Nat → Nat) (hf : 0 < f b) : lnk n (up1 f b) = (lnk n f).set (lnkAt b f) (b, f b + 1) := by
  rw [lnk_split h f, lnk_split h (up1 f b), up1_self, if_pos hf, if_pos (by omega), lnkAt_up, lnkR_up, List.append_assoc, List.append_assoc]
  unfold lnkAt
  rw [List.set_append_right _ _ (Nat.le_refl _), Nat.sub_self]; rfl
/-- one cell more where it is not there -/
theorem lnk_new {n b : Nat} (h : b < n) (f : Nat → Nat) (hf : f b = 0) : lnk n (up1 f b) = ((lnk n f).take (lnkAt b f) ++ [(b, 0)] ++ (lnk n f).drop (lnkAt b f)).set (lnkAt b f) (b, 1) := by
  have e : lnk n f = lnkL (List.range b) f ++ lnkL (List.range' (b + 1) (n - b - 1)) f := by rw [lnk_split h f, if_neg (by omega), List.append_nil]
  have e2 : lnk n (up1 f b) = lnkL (List.range b) f ++ ((b, 1) :: lnkL (List.range' (b + 1) (n - b - 1)) f) := by
    rw [lnk_split h (up1 f b), up1_self, hf, if_pos (by omega), lnkAt_up, lnkR_up, List.append_assoc]; rfl
  rw [e2, e]
  unfold lnkAt
  rw [List.take_left', List.drop_left', List.append_assoc, List.set_append_right _ _ (Nat.le_refl _), Nat.sub_self]
  · rfl
  · rfl
  · rfl

/-- the cells of links: a pointer to the room's block, and the length -/
def lnkC1 (Q : Nat) (x : Nat × Nat) : List Value := [.pointer (some ⟨Q + x.1, 0, none⟩), .int .i64 (x.2 : Nat)]
def lnkC (Q : Nat) (L : List (Nat × Nat)) : List Value := L.flatMap (lnkC1 Q)
theorem lnkC_append (Q : Nat) (L K : List (Nat × Nat)) : lnkC Q (L ++ K) = lnkC Q L ++ lnkC Q K := by simp [lnkC]
theorem lnkC_len (Q : Nat) (L : List (Nat × Nat)) : (lnkC Q L).length = L.length * 2 := by
  induction L with
  | nil => rfl
  | cons x L ih => unfold lnkC at ih ⊢; rw [List.flatMap_cons, List.length_append, ih, List.length_cons, Nat.succ_mul]; simp [lnkC1]; omega
theorem lnkC_take (Q : Nat) (L : List (Nat × Nat)) (i : Nat) : (lnkC Q L).take (i * 2) = lnkC Q (L.take i) := by
  induction L generalizing i with
  | nil => simp [lnkC]
  | cons x L ih =>
    cases i with
    | zero => simp [lnkC]
    | succ i =>
      unfold lnkC at ih ⊢
      rw [List.flatMap_cons, List.take_succ_cons, List.flatMap_cons, ← ih, show (i + 1) * 2 = (lnkC1 Q x).length + i * 2 from by simp [lnkC1]; omega, List.take_length_add_append]
theorem lnkC_drop (Q : Nat) (L : List (Nat × Nat)) (i : Nat) : (lnkC Q L).drop (i * 2) = lnkC Q (L.drop i) := by
  induction L generalizing i with
  | nil => simp [lnkC]
  | cons x L ih =>
    cases i with
    | zero => simp
    | succ i =>
      unfold lnkC at ih ⊢
      rw [List.flatMap_cons, List.drop_succ_cons, ← ih, show (i + 1) * 2 = (lnkC1 Q x).length + i * 2 from by simp [lnkC1]; omega, List.drop_length_add_append]
theorem lnkC_at (Q : Nat) (L : List (Nat × Nat)) (k j : Nat) (hk : k < L.length) (hj : j < 2) : (lnkC Q L)[k * 2 + j]? = (lnkC1 Q (L.getD k (0, 0)))[j]? := by
  induction L generalizing k with
  | nil => simp at hk
  | cons x L ih =>
    unfold lnkC at ih ⊢
    rw [List.flatMap_cons]
    cases k with
    | zero => rw [Nat.zero_mul, Nat.zero_add, List.getElem?_append_left (by simp [lnkC1]; omega)]; simp
    | succ k =>
      rw [List.getElem?_append_right (by simp [lnkC1]; omega), show (k + 1) * 2 + j - (lnkC1 Q x).length = k * 2 + j from by simp [lnkC1]; omega]
      rw [ih k (by simp at hk; omega)]
      simp
theorem lnkC_one (Q : Nat) (L : List (Nat × Nat)) : ∀ v ∈ lnkC Q L, v.oneCell' = true := by
  intro v hv
  unfold lnkC at hv
  obtain ⟨x, _, hx⟩ := List.mem_flatMap.1 hv
  simp only [lnkC1, List.mem_cons, List.not_mem_nil, or_false] at hx
  rcases hx with rfl | rfl <;> rfl
/-- another length at a place -/
theorem lnkC_set (Q : Nat) (L : List (Nat × Nat)) (k : Nat) (b m m' : Nat) (hk : k < L.length) (hx : L.getD k (0, 0) = (b, m)) : lnkC Q (L.set k (b, m')) = (lnkC Q L).set (k * 2 + 1) (.int .i64 (m' : Nat)) := by
  induction L generalizing k with
  | nil => simp at hk
  | cons x L ih =>
    unfold lnkC at ih ⊢
    cases k with
    | zero =>
      simp at hx; subst hx
      simp [lnkC1]
    | succ k =>
      rw [List.set_cons_succ, List.flatMap_cons, List.flatMap_cons, ih k (by simp at hk; omega) (by simpa using hx), List.set_append_right _ _ (by simp [lnkC1]; omega)]
      congr 2
      simp [lnkC1]; omega

end Go.Proofs.Ytjcbfijliacicaa
