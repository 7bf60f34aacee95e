/-
  A list of numbers and a word, handed back. (No function of the program is named.)
-/
import Derived.Test.YtlgbefmgpmdolaaRowQ

namespace Go.Proofs.Ytlgbefmgpmdolaa
open Go.RowKit

/-- a call hands back numbers of the call's own, and a word whether there are any -/
def NumsRet (base : Nat) (T : List Int) (b : Bool) (e : Ending) (w' : World) : Prop :=
  ∃ ro rc, e = .returned (.tuple #[.slice ro T.length rc, .bool b]) ∧ w'.ownsRow base 3 1 (.slice ro T.length rc) T.length (T.map (Value.int .i64))

end Go.Proofs.Ytlgbefmgpmdolaa
