/-
  The program finds the box of a room. (Walk inside a fence.)
-/
import Derived.Test.YtlgbefmgpmdolaaTurnsR

namespace Go.Proofs.Ytlgbefmgpmdolaa
open Go.RowKit Go.Shelf

attribute [local go_sem] Oper.semAt_some

end Go.Proofs.Ytlgbefmgpmdolaa
