
/-
  The model writes rows so often, and leaves out rows. (Walks.)
-/
import Derived.Test.YtieieokkaomkaaaSpecF
namespace Go.Proofs.Ytieieokkaomkaaa
open Go.RowKit

def oftenL (p : List ByteArray) (k t : Nat) : List ByteArray := (List.range t).map fun t => p.getD (t / k) ByteArray.empty
def oftenB (p : List ByteArray) (k : Nat) : List ByteArray := oftenL p k (p.length * k)
theorem oftenL_len (p : List ByteArray) (k t : Nat) : (oftenL p k t).length = t := by simp [oftenL]
theorem oftenL_succ {p : List ByteArray} {k i n : Nat} (hn : n < k) : oftenL p k (i * k + n + 1) = oftenL p k (i * k + n) ++ [p.getD i ByteArray.empty] := by
  unfold oftenL
  rw [List.range_succ, List.map_append, List.map_singleton, (cell_div i n k hn).1]

end Go.Proofs.Ytieieokkaomkaaa
