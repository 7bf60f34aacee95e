/-
  Is a list a permutation: the model asks it by bits. (Walks.)
-/
import Derived.Test.YtlgbefmgpmdolaaSevMR
import Derived.Test.YtlgbefmgpmdolaaSpecAR
import Derived.Test.YtlgbefmgpmdolaaRowR

namespace Go.Proofs.Ytlgbefmgpmdolaa
open Go.RowKit

theorem take_mem_succ {l : List Int} {i : Nat} (hi : i < l.length) {P : Int → Prop} (h : ∀ x ∈ l.take i, P x) (hx : P (l.getD i 0)) : ∀ x ∈ l.take (i + 1), P x := by
  intro x hx'
  rw [take_succ_getD l i 0 hi, List.mem_append, List.mem_singleton] at hx'
  rcases hx' with h' | rfl
  · exact h x h'
  · exact hx
theorem getD_mem_list {l : List Int} {i : Nat} (hi : i < l.length) : l.getD i 0 ∈ l := by
  rw [List.getD_eq_getElem?_getD, List.getElem?_eq_getElem hi]; exact List.getElem_mem hi
theorem isP_out {l : List Int} {i : Nat} (hi : i < l.length) (h : l.getD i 0 < 0 ∨ (l.length : Int) ≤ l.getD i 0) : isP l = false := by
  unfold isP; rw [decide_eq_false_iff_not]
  rintro ⟨_, _, h3, _⟩
  have := h3 _ (getD_mem_list hi)
  omega
theorem isP_long {l : List Int} (h : 7 < l.length ∨ l.length < 1) : isP l = false := by
  unfold isP; rw [decide_eq_false_iff_not]; omega
end Go.Proofs.Ytlgbefmgpmdolaa
