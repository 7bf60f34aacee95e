
/-
  Facts of rows that the law of rows asks.
-/
import Derived.Test.YtfemfmkgdgcemaaShB
namespace Go.Proofs.Ytfemfmkgdgcemaa

theorem rowsN_flip (x y a b : Nat) : rowsN x y a b = rowsN y x a b := by
  unfold rowsN
  rw [Nat.mul_comm (y / a) (x / b), Nat.mul_comm (y / b) (x / a), Nat.max_comm]
theorem rowsN_zero (x y a b : Nat) (ha : 1 ≤ a) (hb : 1 ≤ b) : rowsN x y a b = 0 ↔ ((x < a ∨ y < b) ∧ (y < a ∨ x < b)) := by
  have hm : ∀ p q : Nat, max p q = 0 ↔ p = 0 ∧ q = 0 := fun p q => by omega
  unfold rowsN
  rw [hm, Nat.mul_eq_zero, Nat.mul_eq_zero, Nat.div_eq_zero_iff, Nat.div_eq_zero_iff, Nat.div_eq_zero_iff, Nat.div_eq_zero_iff]
  omega

theorem greN_le : ∀ n w h, w + h ≤ n → 1 ≤ w → 1 ≤ h → greN w h ≤ w + h := by
  intro n
  induction n with
  | zero => intro w h hn h1; omega
  | succ n ih =>
    intro w h hn h1 h2
    rcases Nat.lt_trichotomy w h with hl | rfl | hl
    · rw [greN_high h1 hl]; have := ih w (h - w) (by omega) h1 (by omega); omega
    · rw [greN_self w h1]; omega
    · rw [greN_wide h2 hl]; have := ih (w - h) h (by omega) (by omega) h2; omega
theorem greN_bd {w h : Nat} (h1 : 1 ≤ w) (h2 : w ≤ 12) (h3 : 1 ≤ h) (h4 : h ≤ 12) : greN w h ≤ 24 := by
  have := greN_le (w + h) w h (Nat.le_refl _) h1 h3; omega

end Go.Proofs.Ytfemfmkgdgcemaa
