/-
  The program finds the box of a room. (Walk inside a fence.)
-/
import Derived.Test.YtpgcpmfemcfoaaaTurnsO

namespace Go.Proofs.Ytpgcpmfemcfoaaa
open Go.RowKit Go.Shelf

attribute [local go_sem] Oper.semAt_some

end Go.Proofs.Ytpgcpmfemcfoaaa
