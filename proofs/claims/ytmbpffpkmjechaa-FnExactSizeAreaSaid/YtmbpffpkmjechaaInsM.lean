
/-
  Putting rooms in order one by one. (Plain mathematics: no function is named.)
-/
import Derived.Test.YtmbpffpkmjechaaSizM
namespace Go.Proofs.Ytmbpffpkmjechaa

def swapL (L : List Nat) (j : Nat) : List Nat := (L.set j (L.getD (j - 1) 0)).set (j - 1) (L.getD j 0)
theorem swapL_len (L : List Nat) (j : Nat) : (swapL L j).length = L.length := by simp [swapL]
theorem swapL_at {L : List Nat} {j : Nat} (h1 : 1 ≤ j) (hj : j < L.length) (x : Nat) : (swapL L j).getD x 0 = if x = j - 1 then L.getD j 0 else if x = j then L.getD (j - 1) 0 else L.getD x 0 := by
  unfold swapL
  rw [getD_set _ _ _ _ (by rw [List.length_set]; omega), getD_set _ _ _ _ hj]
structure Ins (q : Nat → Nat → Bool) (r i : Nat) (L : List Nat) : Prop where
  len : L.length = r
  lt : ∀ x, x < r → L.getD x 0 < r
  inj : ∀ x y, x < r → y < r → L.getD x 0 = L.getD y 0 → x = y
  ord : ∀ x y, x < y → y < i → q (L.getD x 0) (L.getD y 0) = true
structure InJ (q : Nat → Nat → Bool) (r i j : Nat) (L : List Nat) : Prop where
  len : L.length = r
  lt : ∀ x, x < r → L.getD x 0 < r
  inj : ∀ x y, x < r → y < r → L.getD x 0 = L.getD y 0 → x = y
  hi : i < r
  hj : j ≤ i
  ord : ∀ x y, x < y → y ≤ i → x ≠ j → y ≠ j → q (L.getD x 0) (L.getD y 0) = true
  fst : ∀ y, j < y → y ≤ i → q (L.getD j 0) (L.getD y 0) = true
theorem Ins.start (q : Nat → Nat → Bool) (r : Nat) : Ins q r 1 (List.range r) := by
  have hg : ∀ x, x < r → (List.range r).getD x 0 = x := fun x hx => by simp [hx]
  exact ⟨by simp, fun x hx => by rw [hg x hx]; exact hx, fun x y hx hy e => by rwa [hg x hx, hg y hy] at e, fun x y h1 h2 => by omega⟩
theorem Ins.inner {q : Nat → Nat → Bool} {r i : Nat} {L : List Nat} (h : Ins q r i L) (hi : i < r) : InJ q r i i L :=
  ⟨h.len, h.lt, h.inj, hi, Nat.le_refl _, fun x y h1 h2 _ h4 => h.ord x y h1 (by omega), fun y h1 h2 => by omega⟩
theorem InJ.swap {q : Nat → Nat → Bool} {r i j : Nat} {L : List Nat} (h : InJ q r i j L) (h1 : 1 ≤ j) (hq : q (L.getD j 0) (L.getD (j - 1) 0) = true) : InJ q r i (j - 1) (swapL L j) := by
  have hjr : j < L.length := by rw [h.len]; have := h.hi; have := h.hj; omega
  have hjr2 : j < r := by rw [← h.len]; exact hjr
  have hji := h.hj
  have hat := fun x => swapL_at h1 hjr x
  refine ⟨by rw [swapL_len]; exact h.len, fun x hx => ?_, fun x y hx hy e => ?_, h.hi, by omega, fun x y hxy hy hx1 hy1 => ?_, fun y hy1 hy => ?_⟩
  · rw [hat]; split
    · exact h.lt _ hjr2
    · split
      · exact h.lt _ (by omega)
      · exact h.lt x hx
  · rw [hat, hat] at e
    by_cases a1 : x = j - 1
    · by_cases a2 : y = j - 1
      · omega
      · rw [if_pos a1, if_neg a2] at e
        by_cases a3 : y = j
        · rw [if_pos a3] at e; have := h.inj _ _ hjr2 (by omega) e; omega
        · rw [if_neg a3] at e; have := h.inj _ _ hjr2 hy e; omega
    · rw [if_neg a1] at e
      by_cases a2 : y = j - 1
      · rw [if_pos a2] at e
        by_cases a3 : x = j
        · rw [if_pos a3] at e; have := h.inj _ _ (by omega) hjr2 e; omega
        · rw [if_neg a3] at e; have := h.inj _ _ hx hjr2 e; omega
      · rw [if_neg a2] at e
        by_cases a3 : x = j
        · rw [if_pos a3] at e
          by_cases a4 : y = j
          · omega
          · rw [if_neg a4] at e; have := h.inj _ _ (by omega) hy e; omega
        · rw [if_neg a3] at e
          by_cases a4 : y = j
          · rw [if_pos a4] at e; have := h.inj _ _ hx (by omega) e; omega
          · rw [if_neg a4] at e; exact h.inj _ _ hx hy e
  · rw [hat, hat, if_neg hx1, if_neg hy1]
    by_cases a3 : x = j
    · rw [if_pos a3, if_neg (by omega)]
      exact h.ord (j - 1) y (by omega) hy (by omega) (by omega)
    · rw [if_neg a3]
      by_cases a4 : y = j
      · rw [if_pos a4]; exact h.ord x (j - 1) (by omega) (by omega) a3 (by omega)
      · rw [if_neg a4]; exact h.ord x y hxy hy a3 a4
  · rw [hat, hat, if_pos rfl, if_neg (by omega)]
    by_cases a4 : y = j
    · rw [if_pos a4]; exact hq
    · rw [if_neg a4]; exact h.fst y (by omega) hy
theorem InJ.stop0 {q : Nat → Nat → Bool} {r i : Nat} {L : List Nat} (h : InJ q r i 0 L) : Ins q r (i + 1) L :=
  ⟨h.len, h.lt, h.inj, fun x y hxy hy => by
    by_cases e : x = 0
    · subst e; exact h.fst y hxy (by omega)
    · exact h.ord x y hxy (by omega) e (by omega)⟩
theorem InJ.stop {q : Nat → Nat → Bool} {r i j : Nat} {L : List Nat} (G : Lin q r) (h : InJ q r i j L) (h1 : 1 ≤ j) (hq : q (L.getD j 0) (L.getD (j - 1) 0) = false) : Ins q r (i + 1) L := by
  have hi := h.hi
  have hj := h.hj
  have hb : q (L.getD (j - 1) 0) (L.getD j 0) = true := by
    rcases G.all _ _ (h.lt (j - 1) (by omega)) (h.lt j (by omega)) (fun e => by have := h.inj _ _ (by omega) (by omega) e; omega) with k | k
    · exact k
    · rw [hq] at k; cases k
  refine ⟨h.len, h.lt, h.inj, fun x y hxy hy => ?_⟩
  by_cases a1 : x = j
  · subst a1; exact h.fst y hxy (by omega)
  · by_cases a2 : y = j
    · subst a2
      by_cases a3 : x = y - 1
      · subst a3; exact hb
      · exact G.trans _ _ _ (h.lt x (by omega)) (h.lt _ (by omega)) (h.lt _ (by omega)) (h.ord x (y - 1) (by omega) (by omega) a1 (by omega)) hb
    · exact h.ord x y hxy (by omega) a1 a2
theorem Ins.done {q : Nat → Nat → Bool} {r i : Nat} {L : List Nat} (G : Lin q r) (hir : r ≤ i) (h : Ins q r i L) : Srt q r L := by
  have ord : ∀ x y, x < y → y < r → q (L.getD x 0) (L.getD y 0) = true := fun x y h1 h2 => h.ord x y h1 (by omega)
  have lo : ∀ x, x < r → x ≤ placeN q r (L.getD x 0) := by
    intro x
    induction x with
    | zero => intro _; exact Nat.zero_le _
    | succ x ih =>
      intro hx
      have h1 := ih (by omega)
      have h2 := G.mono (h.lt x (by omega)) (h.lt (x + 1) hx) (ord x (x + 1) (by omega) hx)
      omega
  have hi2 : ∀ m x, x + m + 1 = r → placeN q r (L.getD x 0) ≤ x := by
    intro m
    induction m with
    | zero => intro x hx; have := G.lt (h.lt x (by omega)); omega
    | succ m ih =>
      intro x hx
      have h1 := ih (x + 1) (by omega)
      have h2 := G.mono (h.lt x (by omega)) (h.lt (x + 1) (by omega)) (ord x (x + 1) (by omega) (by omega))
      omega
  refine ⟨h.len, h.lt, ord, fun x hx => ⟨placeN q r x, G.lt hx, ?_⟩⟩
  have hp := G.lt hx
  have h1 := lo _ hp
  have h2 := hi2 (r - 1 - placeN q r x) (placeN q r x) (by omega)
  exact G.inj (h.lt _ hp) hx (Nat.le_antisymm h2 h1)

end Go.Proofs.Ytmbpffpkmjechaa
