/-
  Lists of texts among the arguments of a law: opened as cells.
-/
import Derived.Test.YtlgbefmgpmdolaaRows
import Derived.Test.YtlgbefmgpmdolaaRowR
import Derived.ProofKit
import Derived.SliceStrings

namespace Go.Proofs.Ytlgbefmgpmdolaa
open Go.ChangeShapes Go.WideShapes Go.ChangeAt Go.RowKit

theorem Try.own : ownKnob Try.prog.godebug = none := by kernel_rfl
end Go.Proofs.Ytlgbefmgpmdolaa
