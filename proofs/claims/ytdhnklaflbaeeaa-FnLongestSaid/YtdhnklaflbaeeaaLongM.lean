
/-
  No wall is longer than the longest one. (Mathematics.)
-/
import Derived.Test.YtdhnklaflbaeeaaLong
import Derived.Test.YtdhnklaflbaeeaaList
namespace Go.Proofs.Ytdhnklaflbaeeaa
open Go.RowKit

theorem lngAt_max (L : List Wl) : ∀ i j, j < i → (L.getD j zeroWl).long ≤ (L.getD (lngAt L i) zeroWl).long
  | 0, j, h => absurd h (Nat.not_lt_zero _)
  | i + 1, j, h => by
    by_cases hl : (L.getD (lngAt L i) zeroWl).long < (L.getD i zeroWl).long
    · rw [lngAt_yes hl]
      rcases Nat.lt_succ_iff_lt_or_eq.1 h with h1 | rfl
      · have := lngAt_max L i j h1; omega
      · exact Nat.le_refl _
    · rw [lngAt_no hl]
      rcases Nat.lt_succ_iff_lt_or_eq.1 h with h1 | rfl
      · exact lngAt_max L i j h1
      · omega
theorem long_math {p : List ByteArray} (h : longOk p = true) : planB p = true ∧ longI p < (wallsP p).length ∧ ((wallsP p).getD (longI p) zeroWl).long = longN p ∧ longN p ≤ 6 ∧
    (∀ j, j < longI p → ((wallsP p).getD j zeroWl).long < longN p) ∧ (∀ j, j < (wallsP p).length → ((wallsP p).getD j zeroWl).long ≤ longN p) := by
  have h0 : 0 < (wallsP p).length := of_decide_eq_true h
  have e1 : longI p = lngAt (wallsP p) (wallsP p).length := if_pos h
  have e2 : longN p = ((wallsP p).getD (lngAt (wallsP p) (wallsP p).length) zeroWl).long := if_pos h
  have hi := lngAt_lt (wallsP p) _ h0
  refine ⟨planB_walls h, by rw [e1]; exact hi, by rw [e1, e2], ?_, ?_, ?_⟩
  · rw [e2]
    obtain ⟨_, _, _, _, a, _⟩ := wallsG_mem (getD_mem zeroWl hi)
    have h2 : alongN (planH p) (planW p) ((wallsP p).getD (lngAt (wallsP p) (wallsP p).length) zeroWl).way ≤ 6 := by unfold alongN; have := planH_le p; have := planW_le p; split <;> omega
    exact Nat.le_trans (Nat.le_trans (Nat.le_add_left _ _) a) h2
  · rw [e1, e2]; exact lngAt_first (wallsP p) _
  · rw [e2]; exact lngAt_max (wallsP p) _

end Go.Proofs.Ytdhnklaflbaeeaa
