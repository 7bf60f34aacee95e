/-
  Merged texts: LawA LawK.
-/
import Derived.Test.YtpgcpmfemcfoaaaRows
import Derived.Test.YtpgcpmfemcfoaaaRowR
import Derived.BigQuiet

/-
  The helpers of the laws over lists of texts: sizes, copies, comparing. (Walks.)
-/
namespace Go.Proofs.Ytpgcpmfemcfoaaa
open Go.RowKit

/-- two lists of texts are equal -/
def eqS (l m : List ByteArray) : Bool := decide (l = m)

theorem eqS_no {l m : List ByteArray} {k : Nat} (h : l.getD k ByteArray.empty ≠ m.getD k ByteArray.empty) : eqS l m = false := by
  unfold eqS; rw [decide_eq_false_iff_not]; rintro rfl; exact h rfl
theorem eqS_len {l m : List ByteArray} (h : l.length ≠ m.length) : eqS l m = false := by
  unfold eqS; rw [decide_eq_false_iff_not]; rintro rfl; exact h rfl
theorem eqS_all {l m : List ByteArray} {k : Nat} (hlen : l.length = m.length) (hk : ¬ k < l.length) (h : l.take k = m.take k) : eqS l m = true := by
  unfold eqS; rw [decide_eq_true_iff]
  rwa [List.take_of_length_le (by omega), List.take_of_length_le (by omega)] at h
theorem eqS_step {l m : List ByteArray} {k : Nat} (h1 : k < l.length) (h2 : k < m.length) (h : l.take k = m.take k) (he : l.getD k ByteArray.empty = m.getD k ByteArray.empty) : l.take (k + 1) = m.take (k + 1) := by
  rw [take_succ_getD l k ByteArray.empty h1, take_succ_getD m k ByteArray.empty h2, h, he]

end Go.Proofs.Ytpgcpmfemcfoaaa

/-
  Small facts of the laws' walks, and their helpers over lists of numbers: compared, marked, held. (Merged texts: LawH LawI Same.)
-/
/-
  Small facts that the walks of the laws use.
-/
namespace Go.Proofs.Ytpgcpmfemcfoaaa
open Go.RowKit

end Go.Proofs.Ytpgcpmfemcfoaaa

/-
  The laws' helpers over lists of numbers: compared, marked, held. (Walks.)
-/
namespace Go.Proofs.Ytpgcpmfemcfoaaa
open Go.RowKit

end Go.Proofs.Ytpgcpmfemcfoaaa

/-
  Lists compared by the laws. (Walks.)
-/
namespace Go.Proofs.Ytpgcpmfemcfoaaa
open Go.RowKit

end Go.Proofs.Ytpgcpmfemcfoaaa
