/-
  The rooms of both sides of a wall: the model's answer. (Walks.)
-/
import Derived.Test.YtlgbefmgpmdolaaOutlQ
import Derived.Test.YtlgbefmgpmdolaaLongQ
import Derived.StillTailTactics

namespace Go.Proofs.Ytlgbefmgpmdolaa
open Go.RowKit

theorem PlanP.room {p : List ByteArray} (hp : PlanP p) {i j : Nat} (hi : i < p.length) (hj : j < wideB p) : ((byteAt p i j).toNat : Int) - 97 = ((gridG p i j : Nat) : Int) := by
  have h1 := hp.grid.letter hi hj
  have h2 := markN_lt p i j
  rw [h1, UInt8.toNat_ofNat', ← hp.mark i j hi hj]
  omega

end Go.Proofs.Ytlgbefmgpmdolaa
