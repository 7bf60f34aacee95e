/-
  Merged texts: LawA LawK.
-/
import Derived.Test.YtpgcpmfemcfoaaaRows
import Derived.Test.YtpgcpmfemcfoaaaRowO
import Derived.Test.YtpgcpmfemcfoaaaImplABO
import Derived.Test.YtpgcpmfemcfoaaaSpecAO
import Derived.BigQuiet
import Derived.StillTail
import Derived.Lib.QuietBelow

/-
  The helpers of the laws over lists of texts: sizes, copies, comparing. (Walks.)
-/
namespace Go.Proofs.Ytpgcpmfemcfoaaa
open Go.RowKit

/-- two lists of texts are equal -/
def eqS (l m : List ByteArray) : Bool := decide (l = m)

theorem eqS_no {l m : List ByteArray} {k : Nat} (h : l.getD k ByteArray.empty ≠ m.getD k ByteArray.empty) : eqS l m = false := by
  unfold eqS; rw [decide_eq_false_iff_not]; rintro rfl; exact h rfl
theorem eqS_len {l m : List ByteArray} (h : l.length ≠ m.length) : eqS l m = false := by
  unfold eqS; rw [decide_eq_false_iff_not]; rintro rfl; exact h rfl
theorem eqS_all {l m : List ByteArray} {k : Nat} (hlen : l.length = m.length) (hk : ¬ k < l.length) (h : l.take k = m.take k) : eqS l m = true := by
  unfold eqS; rw [decide_eq_true_iff]
  rwa [List.take_of_length_le (by omega), List.take_of_length_le (by omega)] at h
theorem eqS_step {l m : List ByteArray} {k : Nat} (h1 : k < l.length) (h2 : k < m.length) (h : l.take k = m.take k) (he : l.getD k ByteArray.empty = m.getD k ByteArray.empty) : l.take (k + 1) = m.take (k + 1) := by
  rw [take_succ_getD l k ByteArray.empty h1, take_succ_getD m k ByteArray.empty h2, h, he]

end Go.Proofs.Ytpgcpmfemcfoaaa

/-
  Small facts of the laws' walks, and their helpers over lists of numbers: compared, marked, held. (Merged texts: LawH LawI Same.)
-/
/-
  Small facts that the walks of the laws use.
-/
namespace Go.Proofs.Ytpgcpmfemcfoaaa
open Go.RowKit

end Go.Proofs.Ytpgcpmfemcfoaaa

/-
  The laws' helpers over lists of numbers: compared, marked, held. (Walks.)
-/
namespace Go.Proofs.Ytpgcpmfemcfoaaa
open Go.RowKit

end Go.Proofs.Ytpgcpmfemcfoaaa

/-
  Lists compared by the laws. (Walks.)
-/
namespace Go.Proofs.Ytpgcpmfemcfoaaa
open Go.RowKit

end Go.Proofs.Ytpgcpmfemcfoaaa

/-
  The program's texts: small letters, equal lists, a plan's rows. (Walks.)
-/
namespace Go.Proofs.Ytpgcpmfemcfoaaa
open Go.RowKit

/-- a row of a plan's letters -/
def rowT (wd : Nat) (g : Nat → Nat → Nat) (i : Nat) : List UInt8 := (List.range wd).map fun j => UInt8.ofNat (97 + g i j)
/-- a plan's texts -/
def rowsT (h wd : Nat) (g : Nat → Nat → Nat) : List ByteArray := (List.range h).map fun i => ⟨(rowT wd g i).toArray⟩
theorem rowsT_len (h wd : Nat) (g : Nat → Nat → Nat) : (rowsT h wd g).length = h := by simp [rowsT]
theorem rowT_len (wd : Nat) (g : Nat → Nat → Nat) (i : Nat) : (rowT wd g i).length = wd := by simp [rowT]
end Go.Proofs.Ytpgcpmfemcfoaaa

/-
  A region that draws its order, whose first operations leave the world in a class, whose last of these is awaited by all that follow. The last operations are walked in each order that they may come in.
-/
namespace Go.Proofs.Ytpgcpmfemcfoaaa

section
variable {P : Program} {ops : Array Oper} {md : Region.Mode} {C : World → Prop}

/-- Whatever order the head's operations come in; then L. -/
def wpAnyH (P : Program) (md : Region.Mode) (ops : Array Oper) (C : World → Prop) (n : Nat) (L : Array Bool → Act → Prop) : Nat → Array Bool → Act → Prop
  | 0, listed, a => L listed a
  | f + 1, listed, a =>
    Region.ready md ops listed ≠ [] ∧ ∀ i ∈ Region.ready md ops listed, i ≤ n ∧ qOp P ops C i (wpAnyH P md ops C n L f (listed.setIfInBounds i true)) a

end
end Go.Proofs.Ytpgcpmfemcfoaaa
