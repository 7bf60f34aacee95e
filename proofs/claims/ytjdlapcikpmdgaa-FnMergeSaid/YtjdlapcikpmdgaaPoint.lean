
/-
  Merged texts: MeetS PointS SpecM.
-/
import Derived.Test.YtjdlapcikpmdgaaSpecWX
import Derived.BigQuiet
import Derived.StillTailTactics

/-
  How many rooms meet at a point: the model's answer. (Walks.)
-/
namespace Go.Proofs.Ytjdlapcikpmdgaa
open Go.RowKit

/-- a letter is none of those ahead of it -/
def newL (cs : List UInt8) (a b : Nat) : Bool := (List.range b).all fun t => decide (cs.getD a 0 ≠ cs.getD t 0)
/-- how many letters differ, of the first ones -/
def newN (cs : List UInt8) (a : Nat) : Nat := (List.range a).countP fun t => newL cs t t
/-- the letters around a point -/
def cornL (p : List ByteArray) (i k : Nat) : List UInt8 := [byteAt p (i - 1) (k - 1), byteAt p (i - 1) k, byteAt p i (k - 1), byteAt p i k]

theorem newL_succ (cs : List UInt8) (a b : Nat) : newL cs a (b + 1) = (newL cs a b && decide (cs.getD a 0 ≠ cs.getD b 0)) := by
  unfold newL; rw [List.range_succ, List.all_append]; simp
theorem newL_zero (cs : List UInt8) (a : Nat) : newL cs a 0 = true := rfl
theorem newN_succ (cs : List UInt8) (a : Nat) : newN cs (a + 1) = newN cs a + (if newL cs a a then 1 else 0) := by
  unfold newN; rw [List.range_succ, List.countP_append, List.countP_singleton]
theorem newN_zero (cs : List UInt8) : newN cs 0 = 0 := rfl
theorem newN_le (cs : List UInt8) (a : Nat) : newN cs a ≤ a := by
  unfold newN; have := List.countP_le_length (p := fun t => newL cs t t) (l := List.range a); simpa using this

end Go.Proofs.Ytjdlapcikpmdgaa

/-
  The points at which so many rooms meet: the model's answer. (Walks.)
-/
namespace Go.Proofs.Ytjdlapcikpmdgaa
open Go.RowKit

/-- an inner point at which so many rooms meet -/
def metB (p : List ByteArray) (m i k : Nat) : Bool := decide (1 ≤ i) && decide (1 ≤ k) && decide (newN (cornL p i k) 4 = m)
def rowPts (p : List ByteArray) (m i k : Nat) : Nat := (List.range k).countP (metB p m i)
/-- how many points have so many rooms -/
def ptsN (p : List ByteArray) (m i : Nat) : Nat := ((List.range i).map fun j => rowPts p m j (wideB p)).sum

theorem rowPts_succ (p : List ByteArray) (m i k : Nat) : rowPts p m i (k + 1) = rowPts p m i k + (if metB p m i k then 1 else 0) := by
  unfold rowPts; rw [List.range_succ, List.countP_append, List.countP_singleton]
theorem rowPts_one (p : List ByteArray) (m i : Nat) : rowPts p m i 1 = 0 := by
  unfold rowPts; simp [List.range_succ, metB]
theorem rowPts_le (p : List ByteArray) (m i k : Nat) : rowPts p m i k ≤ k := by
  unfold rowPts; have := List.countP_le_length (p := metB p m i) (l := List.range k); simpa using this
theorem rowPts_zero (p : List ByteArray) (m k : Nat) : rowPts p m 0 k = 0 := by
  unfold rowPts; rw [List.countP_eq_zero]; intro a _; simp [metB]
theorem ptsN_succ (p : List ByteArray) (m i : Nat) : ptsN p m (i + 1) = ptsN p m i + rowPts p m i (wideB p) := by
  unfold ptsN; rw [List.range_succ, List.map_append, List.sum_append]; simp
theorem ptsN_one (p : List ByteArray) (m : Nat) : ptsN p m 1 = 0 := by
  unfold ptsN; simp [List.range_succ, rowPts_zero]
theorem ptsN_le (p : List ByteArray) (m i : Nat) (hw : wideB p ≤ 6) : ptsN p m i ≤ i * 6 := by
  induction i with
  | zero => simp [ptsN]
  | succ i ih => rw [ptsN_succ, Nat.succ_mul]; have := rowPts_le p m i (wideB p); omega

end Go.Proofs.Ytjdlapcikpmdgaa

/-
  Crosses and tees: the model's answers. (Walks.)
-/
namespace Go.Proofs.Ytjdlapcikpmdgaa
open Go.RowKit

/-- how many points of a plan have so many rooms; none of no plan -/
def meetN (p : List ByteArray) (m : Nat) : Nat := if planB p then ptsN p m p.length else 0

end Go.Proofs.Ytjdlapcikpmdgaa
