
/-
  The model calls rooms by letters further on. (Walk.)
-/
import Derived.Test.YtlbdkjhfnjofiaaTurns
namespace Go.Proofs.Ytlbdkjhfnjofiaa
open Go.RowKit

/-- texts whose rooms are called by letters nine further on -/
def laterB (p : List ByteArray) : List ByteArray := rowsT p.length (wideB p) (fun i j => 9 + markN p i j)

end Go.Proofs.Ytlbdkjhfnjofiaa
