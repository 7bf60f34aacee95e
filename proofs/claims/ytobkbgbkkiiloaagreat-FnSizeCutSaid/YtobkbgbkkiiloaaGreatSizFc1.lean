/-
  What the laws of sizes ask. (Plain mathematics.)
-/
import Derived.Test.YtobkbgbkkiiloaaGreatSizYc1
import Derived.Test.YtobkbgbkkiiloaaGreatOrdJc1

namespace Go.Proofs.YtobkbgbkkiiloaaGreat

theorem end_each {f : Nat → Nat → Bool} {r a : Nat} {d : Nat → Nat} (ha : a < r) : sumS f d r a + d a ≤ endS f d r := (eM_le (v := fun a => sumS f d r a + d a) r).1 (Nat.le_refl _) a ha
theorem end_some {f : Nat → Nat → Bool} {r : Nat} {d : Nat → Nat} (hr : 1 ≤ r) (hd : ∀ a, a < r → 1 ≤ d a) : ∃ a, a < r ∧ endS f d r = sumS f d r a + d a := by
  rcases Nat.eq_zero_or_pos (endS f d r) with h0 | h0
  · have := end_each (f := f) (d := d) (a := 0) (r := r) (by omega)
    have := hd 0 (by omega)
    omega
  · apply Classical.byContradiction
    intro hn
    have : endS f d r ≤ endS f d r - 1 := (eM_le (v := fun a => sumS f d r a + d a) r).2 fun a ha => by
      have h1 := end_each (f := f) (d := d) ha
      have h2 : endS f d r ≠ sumS f d r a + d a := fun e => hn ⟨a, ha, e⟩
      show sumS f d r a + d a ≤ _
      omega
    omega

/-! ## rooms that all need one -/
/-! ## rooms without slack -/
/-! ## rooms side by side -/
/-! ## numbers that are small -/
section
open Go.ChangeShapes Go.WideShapes Go.ChangeAt Go.RowKit
end
/-! ## the laws -/
theorem wideV_yes {p : List ByteArray} {l : List Int} (h : sizedB p l = true) (way : Nat) : wideV p l way = endS (pL p way) (dN l) (gridR p) := by unfold wideV; rw [if_pos h]
end Go.Proofs.YtobkbgbkkiiloaaGreat
