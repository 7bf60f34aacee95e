
/-
  May a permutation have so many numbers. (Walks.)
-/
import Derived.Test.YtkpjlglfhhdcbaaSevS
import Derived.Test.YtkpjlglfhhdcbaaSpecA
import Derived.Test.YtkpjlglfhhdcbaaRow
namespace Go.Proofs.Ytkpjlglfhhdcbaa
open Go.RowKit

/-! # may a permutation have so many -/
set_option maxHeartbeats 400000 in
theorem isLength_any (n : Int) (w : World) :
    Calls Try.prog 56 #[.int .i64 n] w fun e w' => e = .returned (.bool (isN n)) ∧ w' = w := by
  by_cases h1 : 1 ≤ n
  · by_cases h7 : n ≤ 7
    · have H := Lib.hid (isN_yes h1 h7)
      go_enter Try.func56, Try.ntmps56
      go_wp2
      go_ret
      exact ⟨ret_bool H.out.symm, rfl⟩
    · have H := Lib.hid (isN_no (n := n) (.inr (by omega)))
      go_enter Try.func56, Try.ntmps56
      go_wp2
      go_ret
      exact ⟨ret_bool H.out.symm, rfl⟩
  · have H := Lib.hid (isN_no (n := n) (.inl (by omega)))
    go_enter Try.func56, Try.ntmps56
    go_wp2
    go_ret
    exact ⟨ret_bool H.out.symm, rfl⟩
theorem in17_any (n : Int) (w : World) :
    Calls Try.prog 40 #[.int .i64 n, .int .i64 1, .int .i64 7] w fun e w' => e = .returned (.bool (isN n)) ∧ w' = w := by
  have := l6In_any n 1 7 w
  rwa [show l6B n 1 7 = isN n by unfold l6B isN; rw [Bool.eq_iff_iff]; simp] at this
theorem bool_num {n : Int} (h : isN n = true) : ∃ k : Nat, n = (k : Int) ∧ 1 ≤ k ∧ k ≤ 7 := by
  unfold isN at h
  rw [Bool.and_eq_true, decide_eq_true_eq, decide_eq_true_eq] at h
  exact ⟨n.toNat, by omega, by omega, by omega⟩
theorem bool_not {n : Int} (h : isN n = false) : n < 1 ∨ 7 < n := by
  unfold isN at h
  rw [Bool.and_eq_false_iff, decide_eq_false_iff_not, decide_eq_false_iff_not] at h
  omega

end Go.Proofs.Ytkpjlglfhhdcbaa
