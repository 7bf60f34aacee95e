
/-
  Facts of numbers that the laws of sheets ask.
-/
import Derived.Test.YtfemfmkgdgcemaaShF
namespace Go.Proofs.Ytfemfmkgdgcemaa

theorem rowsN_most {a b x y : Nat} (ha : 1 ≤ a) (hb : 1 ≤ b) (hx : 1 ≤ x) (hy : 1 ≤ y) : ((rowsN x y a b : Nat) : Int) ≤ mostN a b x y := by
  have h1 := mostN_rows ha hb hx hy
  have h2 := mostN_rows2 ha hb hx hy
  unfold rowsN
  omega
theorem most_facts {a b x y : Nat} (ha : 1 ≤ a) (hb : 1 ≤ b) (hx : x ≤ 12) (hy : y ≤ 12) (hx1 : 1 ≤ x) (hy1 : 1 ≤ y) :
    0 ≤ mostN a b x y ∧ mostN a b x y ≤ 144 ∧ 0 ≤ mostN a b x y * (a : Int) ∧ mostN a b x y * (a : Int) ≤ 144 ∧ mostN a b x y * (a : Int) * (b : Int) ≤ (x : Int) * (y : Int) ∧ (x : Int) * (y : Int) ≤ 144 ∧ 0 ≤ mostN a b x y * (a : Int) * (b : Int) := by
  obtain ⟨h1, h2, h3⟩ := mostN_bd ha hb hx hy hx1 hy1
  have h4 : mostN a b x y * ((a * b : Nat) : Int) ≤ ((x * y : Nat) : Int) := mostN_le ha hb hx1 hy1
  have h5 : x * y ≤ 12 * 12 := Nat.mul_le_mul hx hy
  have h6 : mostN a b x y * ((a * b : Nat) : Int) = mostN a b x y * (a : Int) * (b : Int) := by rw [Int.natCast_mul, Int.mul_assoc]
  have h7 : ((x * y : Nat) : Int) = (x : Int) * (y : Int) := Int.natCast_mul _ _
  have h8 : 0 ≤ mostN a b x y * (a : Int) := Int.mul_nonneg h1 (Int.natCast_nonneg _)
  have h9 : mostN a b x y * (a : Int) * 1 ≤ mostN a b x y * (a : Int) * (b : Int) := Int.mul_le_mul_of_nonneg_left (by omega) h8
  rw [h6] at h2 h4
  rw [h7] at h4
  have h10 : (x : Int) * (y : Int) ≤ 144 := by rw [← h7]; omega
  omega
theorem loss_fact (v : Int) (x y a b : Nat) : (x : Int) * (y : Int) - v * ((a : Int) * (b : Int)) + v * (a : Int) * (b : Int) = (x : Int) * (y : Int) := by
  rw [Int.mul_assoc]; omega

end Go.Proofs.Ytfemfmkgdgcemaa
