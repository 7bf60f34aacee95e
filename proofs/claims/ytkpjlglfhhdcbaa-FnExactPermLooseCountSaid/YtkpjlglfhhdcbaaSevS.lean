
/-
  The sums that tell the numbers of fair and loose permutations. (Plain mathematics: no function is named.)
-/
import Derived.Test.YtkpjlglfhhdcbaaBase
namespace Go.Proofs.Ytkpjlglfhhdcbaa

/-! # ways to choose -/
def chW (n : Nat) : Nat → Nat
  | 0 => 1
  | i + 1 => chW n i * (n - i) / (i + 1)
def chV (n k : Nat) : Nat → Nat
  | 0 => 1
  | i + 1 => chV n k i * (n - k + (i + 1)) / (i + 1)
theorem chW_le : ∀ n, n < 9 → ∀ i, i < 9 → chW n i ≤ 70 := by decide +kernel
theorem chV_le : ∀ n, n < 9 → ∀ k, k < 9 → k ≤ n → ∀ i, i < 9 → i ≤ k → chV n k i ≤ 70 := by decide +kernel
theorem chV_eq : ∀ n, n < 9 → ∀ k, k < 9 → k ≤ n → chV n k k = chW n k := by decide +kernel

/-! # the sum for fair ones -/
def sumW (n : Nat) : Nat → Nat
  | 0 => 0
  | k + 1 => sumW n k + chW (n + 1) k * chW (n + 1) (k + 1) * chW (n + 1) (k + 2)
theorem sumW_le : ∀ n, n < 8 → ∀ k, k < 8 → sumW n k ≤ 1000000 := by decide +kernel
def fairN (n : Nat) : Nat := sumW n n / (chW (n + 1) 1 * chW (n + 1) 2)
theorem fairN_pos : ∀ n, n < 8 → 0 < n → 0 < chW (n + 1) 1 ∧ 0 < chW (n + 1) 2 := by decide +kernel
def fairSum (n : Int) : Int := if 1 ≤ n ∧ n ≤ 7 then (fairN n.toNat : Nat) else 0
def isN (n : Int) : Bool := decide (1 ≤ n) && decide (n ≤ 7)
theorem isN_yes {n : Int} (h1 : 1 ≤ n) (h7 : n ≤ 7) : isN n = true := by unfold isN; simp [h1, h7]
theorem isN_no {n : Int} (h : n < 1 ∨ 7 < n) : isN n = false := by unfold isN; rw [Bool.and_eq_false_iff, decide_eq_false_iff_not, decide_eq_false_iff_not]; omega
theorem fairSum_no {n : Int} (h : n < 1 ∨ 7 < n) : fairSum n = 0 := by unfold fairSum; rw [if_neg (by omega)]
theorem fairSum_yes {k : Nat} (h1 : 1 ≤ k) (h7 : k ≤ 7) : fairSum (k : Int) = (fairN k : Nat) := by unfold fairSum; rw [if_pos (by omega)]; rfl

/-! # the sum for loose ones -/
def looN : Nat → Nat := fun m => [0, 1, 2, 6, 22, 90, 394, 1806].getD m 0
/-- the number for m, the first products added -/
def innN (m : Nat) : Nat → Nat
  | 0 => looN (m - 1)
  | i + 1 => innN m i + looN (i + 1) * looN (m - (i + 1))
theorem looN_le : ∀ m, m < 8 → looN m ≤ 1806 := by decide
theorem innN_le : ∀ m, m < 8 → ∀ i, i < 8 → innN m i ≤ 100000000 := by decide +kernel
theorem innN_eq : ∀ m, m < 8 → 2 ≤ m → innN m (m - 1) = looN m := by decide +kernel
def looSum (n : Int) : Int := if 1 ≤ n ∧ n ≤ 7 then (looN n.toNat : Nat) else 0
theorem looSum_no {n : Int} (h : n < 1 ∨ 7 < n) : looSum n = 0 := by unfold looSum; rw [if_neg (by omega)]
theorem looSum_yes {k : Nat} (h1 : 1 ≤ k) (h7 : k ≤ 7) : looSum (k : Int) = (looN k : Nat) := by unfold looSum; rw [if_pos (by omega)]; rfl
/-- the numbers for the first n -/
def looL (n : Nat) : List Int := (List.range n).map fun (m : Nat) => ((looN m : Nat) : Int)
theorem looL_len (n : Nat) : (looL n).length = n := by simp [looL]
theorem looL_at {n m : Nat} (h : m < n) : (looL n).getD m 0 = (looN m : Nat) := by simp [looL, h]
theorem looL_succ (n : Nat) : looL (n + 1) = looL n ++ [((looN n : Nat) : Int)] := by unfold looL; rw [List.range_succ, List.map_append]; rfl

end Go.Proofs.Ytkpjlglfhhdcbaa
