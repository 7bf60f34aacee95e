
/-
  The law on the question whether a list is a plan. (Walk.)
-/
import Derived.Test.YtmbfhaeljnbflaaLawB
import Derived.Test.YtmbfhaeljnbflaaMathD
namespace Go.Proofs.Ytmbfhaeljnbflaa
open Go.RowKit

theorem szFn_bound : ∀ (l : List ByteArray) (n : Int), ¬ szFn l n < 0 → szFn l n ≤ n ∧ ∀ s ∈ l, (s.size : Int) ≤ n
  | [], n, _ => ⟨Int.le_refl _, fun s hs => by cases hs⟩
  | s :: l, n, h => by
    rw [szFn] at h ⊢
    by_cases hn : n - (s.size : Int) < 0
    · rw [if_pos hn] at h; omega
    · rw [if_neg hn] at h ⊢
      have := szFn_bound l _ h
      refine ⟨by omega, fun t ht => ?_⟩
      rcases List.mem_cons.1 ht with rfl | ht
      · omega
      · have := this.2 t ht; omega

/-- lists that the laws ask of are small -/
theorem szAll_bound {l : List ByteArray} {n : Int} (h : ¬ szAll l n < 0) : szAll l n ≤ n ∧ (l.length : Int) ≤ n ∧ ∀ s ∈ l, (s.size : Int) ≤ n := by
  unfold szAll at h ⊢
  by_cases hn : n - (l.length : Int) < 0
  · rw [if_pos hn] at h; omega
  · rw [if_neg hn] at h ⊢
    have := szFn_bound l _ h
    exact ⟨by omega, by omega, fun s hs => by have := this.2 s hs; omega⟩

end Go.Proofs.Ytmbfhaeljnbflaa
