/-
  Plain mathematics: rows and columns that repeat the one ahead of them are left out.
-/
import Derived.Test.YtpgcpmfemcfoaaaTurnsO

namespace Go.Proofs.Ytpgcpmfemcfoaaa
open Go.RowKit

/-- the numbers below n that do not repeat the one ahead of them -/
def keepL (same : Nat → Bool) (n : Nat) : List Nat := (List.range n).filter fun i => i == 0 || !same i
/-- the t-th of them -/
def nthK (same : Nat → Bool) (n t : Nat) : Nat := (keepL same n).getD t 0
/-- each number repeats one of them, and all between -/
theorem nthK_rep {same : Nat → Bool} {n : Nat} (i : Nat) (hi : i < n) : ∃ t, t < (keepL same n).length ∧ nthK same n t ≤ i ∧ ∀ u, nthK same n t < u → u ≤ i → same u = true := by
  have kept : ∀ i, i < n → (i == 0 || !same i) = true → ∃ t, t < (keepL same n).length ∧ nthK same n t ≤ i ∧ ∀ u, nthK same n t < u → u ≤ i → same u = true := fun i hi hk => by
    have hm : i ∈ keepL same n := by
      unfold keepL
      rw [List.mem_filter, List.mem_range]
      exact ⟨hi, hk⟩
    obtain ⟨t, ht, he⟩ := List.getElem_of_mem hm
    have e : nthK same n t = i := by unfold nthK; simp [ht, he]
    exact ⟨t, ht, by rw [e]; exact Nat.le_refl _, fun u a b => by exfalso; rw [e] at a; omega⟩
  induction i with
  | zero => exact kept 0 hi rfl
  | succ i ih =>
    cases hk : (i + 1 == 0 || !same (i + 1)) with
    | true => exact kept (i + 1) hi hk
    | false =>
      rw [Bool.or_eq_false_iff] at hk
      have hs : same (i + 1) = true := by simpa using hk.2
      obtain ⟨t, ht, hle, hall⟩ := ih (by omega)
      refine ⟨t, ht, by omega, fun u a b => ?_⟩
      rcases Nat.lt_or_ge u (i + 1) with h | h
      · exact hall u a (by omega)
      · obtain rfl : u = i + 1 := by omega
        exact hs
/-- what is the same as the one ahead of it throughout is the same as the first -/
theorem chain_eq {α : Type} {f : Nat → α} {same : Nat → Bool} {a i : Nat} (hs : ∀ u, 1 ≤ u → same u = true → u ≤ i → f u = f (u - 1)) (hle : a ≤ i) (h : ∀ u, a < u → u ≤ i → same u = true) : f i = f a := by
  induction i with
  | zero =>
    obtain rfl : a = 0 := by omega
    rfl
  | succ i ih =>
    rcases Nat.eq_or_lt_of_le hle with rfl | h1
    · rfl
    · rw [hs (i + 1) (by omega) (h (i + 1) h1 (Nat.le_refl _)) (Nat.le_refl _)]
      exact ih (fun u a b c => hs u a b (by omega)) (by omega) (fun u a b => h u a (by omega))

structure Repeats (g : Nat → Nat → Nat) (sr sc : Nat → Bool) (h wd : Nat) : Prop where
  rows : ∀ i, 1 ≤ i → i < h → sr i = true → ∀ j, j < wd → g i j = g (i - 1) j
  cols : ∀ j, 1 ≤ j → j < wd → sc j = true → ∀ i, i < h → g i j = g i (j - 1)

theorem Repeats.row {g : Nat → Nat → Nat} {sr sc : Nat → Bool} {h wd : Nat} (hr : Repeats g sr sc h wd) {i : Nat} (hi : i < h) : ∃ t, t < (keepL sr h).length ∧ nthK sr h t ≤ i ∧ ∀ j, j < wd → g (nthK sr h t) j = g i j := by
  obtain ⟨t, ht, hle, hall⟩ := nthK_rep (same := sr) i hi
  refine ⟨t, ht, hle, fun j hj => ?_⟩
  exact (chain_eq (f := fun a => g a j) (same := sr) (fun u a b c => hr.rows u a (by omega) b j hj) hle hall).symm
theorem Repeats.col {g : Nat → Nat → Nat} {sr sc : Nat → Bool} {h wd : Nat} (hr : Repeats g sr sc h wd) {j : Nat} (hj : j < wd) : ∃ t, t < (keepL sc wd).length ∧ nthK sc wd t ≤ j ∧ ∀ i, i < h → g i (nthK sc wd t) = g i j := by
  obtain ⟨t, ht, hle, hall⟩ := nthK_rep (same := sc) j hj
  refine ⟨t, ht, hle, fun i hi => ?_⟩
  exact (chain_eq (f := fun b => g i b) (same := sc) (fun u a b c => hr.cols u a (by omega) b i hi) hle hall).symm

/-! ### texts without rows that repeat -/
end Go.Proofs.Ytpgcpmfemcfoaaa
