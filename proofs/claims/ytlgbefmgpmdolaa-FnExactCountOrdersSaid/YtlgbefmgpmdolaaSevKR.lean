/-
  The sums that tell the numbers of fair and loose permutations. (Plain mathematics: no function is named.)
-/
import Derived.Test.YtlgbefmgpmdolaaRowR
import Derived.Test.YtlgbefmgpmdolaaSpecAR

namespace Go.Proofs.Ytlgbefmgpmdolaa

/-! # ways to choose -/
/-! # the sum for fair ones -/
def isN (n : Int) : Bool := decide (1 ≤ n) && decide (n ≤ 7)
theorem isN_yes {n : Int} (h1 : 1 ≤ n) (h7 : n ≤ 7) : isN n = true := by unfold isN; simp [h1, h7]
theorem isN_no {n : Int} (h : n < 1 ∨ 7 < n) : isN n = false := by unfold isN; rw [Bool.and_eq_false_iff, decide_eq_false_iff_not, decide_eq_false_iff_not]; omega
/-! # the sum for loose ones -/
end Go.Proofs.Ytlgbefmgpmdolaa

/-
  May a permutation have so many numbers. (Walks.)
-/
namespace Go.Proofs.Ytlgbefmgpmdolaa
open Go.RowKit

/-! # may a permutation have so many -/
set_option maxHeartbeats 400000 in
theorem isLength_any (n : Int) (w : World) :
    Calls Try.prog 45 #[.int .i64 n] w fun e w' => e = .returned (.bool (isN n)) ∧ w' = w := by
  by_cases h1 : 1 ≤ n
  · by_cases h7 : n ≤ 7
    · have H := Lib.hid (isN_yes h1 h7)
      go_enter Try.func45, Try.ntmps45
      go_wp2
      go_ret
      exact ⟨ret_bool H.out.symm, rfl⟩
    · have H := Lib.hid (isN_no (n := n) (.inr (by omega)))
      go_enter Try.func45, Try.ntmps45
      go_wp2
      go_ret
      exact ⟨ret_bool H.out.symm, rfl⟩
  · have H := Lib.hid (isN_no (n := n) (.inl (by omega)))
    go_enter Try.func45, Try.ntmps45
    go_wp2
    go_ret
    exact ⟨ret_bool H.out.symm, rfl⟩
end Go.Proofs.Ytlgbefmgpmdolaa
