
/-
  The program puts two plans together. (Walks.)
-/
import Derived.Test.YtlbdkjhfnjofiaaImplW
namespace Go.Proofs.Ytlbdkjhfnjofiaa
open Go.RowKit

/-- marks of two plans beside each other -/
def besM (wd : Nat) (g g' : Nat → Nat → Nat) (i j : Nat) : Nat := if j < wd then g i j else 9 + g' i (j - wd)
/-- marks of two plans below each other -/
def undM (h : Nat) (g g' : Nat → Nat → Nat) (i j : Nat) : Nat := if i < h then g i j else 9 + g' (i - h) j

end Go.Proofs.Ytlbdkjhfnjofiaa
