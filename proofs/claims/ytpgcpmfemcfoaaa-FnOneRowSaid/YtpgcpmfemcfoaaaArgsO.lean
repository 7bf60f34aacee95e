/-
  Lists of texts among the arguments of a law: opened as cells.
-/
import Derived.Test.YtpgcpmfemcfoaaaRows
import Derived.Test.YtpgcpmfemcfoaaaRowO
import Derived.ProofKit
import Derived.SliceStrings

namespace Go.Proofs.Ytpgcpmfemcfoaaa
open Go.ChangeShapes Go.WideShapes Go.ChangeAt Go.RowKit

theorem Try.own : ownKnob Try.prog.godebug = none := by kernel_rfl
theorem Try.laidOut : laidOutB Try.prog = true := by kernel_rfl
end Go.Proofs.Ytpgcpmfemcfoaaa
