/-
  Lists of texts among the arguments of a law: opened as cells.
-/
import Derived.Test.YtobkbgbkkiiloaaGreatRows
import Derived.Test.YtobkbgbkkiiloaaGreatRowc1
import Derived.ProofKit
import Derived.SliceStrings

namespace Go.Proofs.YtobkbgbkkiiloaaGreat
open Go.ChangeShapes Go.WideShapes Go.ChangeAt Go.RowKit

theorem Tryz.own : ownKnob Tryz.prog.godebug = none := by kernel_rfl
theorem Tryz.laidOut : laidOutB Tryz.prog = true := by kernel_rfl
end Go.Proofs.YtobkbgbkkiiloaaGreat
