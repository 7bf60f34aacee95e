
/-
  Values of sheets: what the law of values asks.
-/
import Derived.Test.YtfemfmkgdgcemaaShL
namespace Go.Proofs.Ytfemfmkgdgcemaa

theorem addV_flip (x y : Nat) (acc : Int) (k : Nat × Nat × Nat) : addV x y acc k = addV y x acc k := by
  unfold addV
  by_cases h : (x = k.1 ∧ y = k.2.1) ∨ (x = k.2.1 ∧ y = k.1)
  · rw [if_pos h, if_pos (show (y = k.1 ∧ x = k.2.1) ∨ (y = k.2.1 ∧ x = k.1) by omega)]
  · rw [if_neg h, if_neg (show ¬ ((y = k.1 ∧ x = k.2.1) ∨ (y = k.2.1 ∧ x = k.1)) by omega)]
theorem worthV_flip (K : List (Nat × Nat × Nat)) (x y : Nat) : worthV K x y = worthV K y x := by
  unfold worthV
  congr 1
  funext acc k
  exact addV_flip x y acc k
theorem valT_flip (K : List (Nat × Nat × Nat)) {x y : Nat} (hx : 1 ≤ x) (hy : 1 ≤ y) : tabC opG (worthV K) x y = tabC opG (worthV K) y x :=
  (tabG_least (worthV K)).flip (fun w h => worthV_flip K w h) hx hy
theorem foldV_ge (x y : Nat) : ∀ (K : List (Nat × Nat × Nat)) (acc : Int), acc ≤ K.foldl (addV x y) acc := by
  intro K
  induction K with
  | nil => intro acc; exact Int.le_refl _
  | cons k K ih =>
    intro acc
    refine Int.le_trans ?_ (ih _)
    unfold addV
    split
    · split <;> omega
    · exact Int.le_refl _
/-- the first kind alone -/
theorem worthV_first (a c v : Nat) (K : List (Nat × Nat × Nat)) (x y : Nat) : (v : Int) * worthM a c x y ≤ worthV ((a, c, v) :: K) x y := by
  unfold worthV
  rw [List.foldl_cons]
  refine Int.le_trans ?_ (foldV_ge x y K _)
  unfold worthM addV
  simp only
  split
  · split <;> omega
  · omega
theorem valT_first (a c v : Nat) (K : List (Nat × Nat × Nat)) (hK : ∀ k ∈ (a, c, v) :: K, kdOk k) {x y : Nat} (hx : 1 ≤ x) (hy : 1 ≤ y) : mostN a c x y * (v : Int) ≤ tabC opG (worthV ((a, c, v) :: K)) x y := by
  have hs := (tabG_least (worthV ((a, c, v) :: K))).sup
  rcases Nat.eq_zero_or_pos v with rfl | hv
  · have := hs.nonneg (fun w h _ _ => (worthV_bd hK w h).1) hx hy
    simpa using this
  · have hg : Sup (worthM a c) (fun w h => tabC opG (worthV ((a, c, v) :: K)) w h / (v : Int)) := by
      refine ⟨fun w h h1 h2 => ?_, fun p q h h1 h2 h3 => ?_, fun w p q h1 h2 h3 => ?_⟩
      · have h4 := Int.le_trans (worthV_first a c v K w h) (hs.own w h h1 h2)
        rw [Int.le_ediv_iff_mul_le (by omega), Int.mul_comm]
        exact h4
      · have h4 := hs.wide p q h h1 h2 h3
        rw [Int.le_ediv_iff_mul_le (by omega), Int.add_mul]
        have e1 := Int.ediv_mul_le (tabC opG (worthV ((a, c, v) :: K)) p h) (show (v : Int) ≠ 0 by omega)
        have e2 := Int.ediv_mul_le (tabC opG (worthV ((a, c, v) :: K)) q h) (show (v : Int) ≠ 0 by omega)
        omega
      · have h4 := hs.high w p q h1 h2 h3
        rw [Int.le_ediv_iff_mul_le (by omega), Int.add_mul]
        have e1 := Int.ediv_mul_le (tabC opG (worthV ((a, c, v) :: K)) w p) (show (v : Int) ≠ 0 by omega)
        have e2 := Int.ediv_mul_le (tabC opG (worthV ((a, c, v) :: K)) w q) (show (v : Int) ≠ 0 by omega)
        omega
    have := (most_least a c).least _ hg x y hx hy
    rwa [Int.le_ediv_iff_mul_le (by omega)] at this

end Go.Proofs.Ytfemfmkgdgcemaa
