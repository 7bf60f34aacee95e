/-
  Merged texts: Pt PtsM.
-/
import Derived.Test.YtpgcpmfemcfoaaaLongQ
import Derived.Test.YtpgcpmfemcfoaaaWallsQ

/-
  Points of a plan: the program's small functions. (Walks.)
-/
namespace Go.Proofs.Ytpgcpmfemcfoaaa
open Go.RowKit

/-- the cells of a point -/
def ptC (x : Nat × Nat) : Array Value := #[.int .i64 (x.1 : Nat), .int .i64 (x.2 : Nat)]
end Go.Proofs.Ytpgcpmfemcfoaaa

/-
  Points that walls go through, and points where they end, counted. (Mathematics.)
-/
namespace Go.Proofs.Ytpgcpmfemcfoaaa

/-- the cell ahead of a place is of a run -/
def pv (f : Nat → Bool) (i : Nat) : Bool := decide (1 ≤ i) && f (i - 1)
def eD (h wd : Nat) (g : Nat → Nat → Nat) (i k : Nat) : Bool := (decide (1 ≤ k) && decide (k < wd)) && upF h g k i
def eL (h wd : Nat) (g : Nat → Nat → Nat) (i k : Nat) : Bool := (decide (1 ≤ i) && decide (i < h)) && pv (lvF wd g i) k
def eR (h wd : Nat) (g : Nat → Nat → Nat) (i k : Nat) : Bool := (decide (1 ≤ i) && decide (i < h)) && lvF wd g i k

/-- all points that a plan may have -/
def ptsAll : List (Nat × Nat) := (List.range 7).flatMap fun i => (List.range 7).map fun k => (i, k)
end Go.Proofs.Ytpgcpmfemcfoaaa
