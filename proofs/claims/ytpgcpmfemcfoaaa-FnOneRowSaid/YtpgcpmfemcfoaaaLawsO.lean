/-
  Merged texts: LawB LawC LawH LawI Same.
-/
import Derived.Test.YtpgcpmfemcfoaaaNeckO
import Derived.Test.YtpgcpmfemcfoaaaMathCEO
import Derived.BigQuiet

/-
  The helpers of the laws that mark a result's memory and look whether the marks have stayed. (Walks.)
-/
namespace Go.Proofs.Ytpgcpmfemcfoaaa
open Go.RowKit

/-- the digits of a number from 1 on; none of 0 -/
def digs : Nat → Nat → List UInt8
  | 0, _ => []
  | f + 1, n => if n = 0 then [] else digs f (n / 10) ++ [UInt8.ofNat (48 + n % 10)]

def markS (k : Int) : ByteArray := if k ≤ 0 then ⟨#[109, 48]⟩ else ⟨(109 :: digs 64 k.toNat).toArray⟩

/-- the marks that the laws write: from number k on, n of them -/
def marks (k n : Nat) : List ByteArray := (List.range n).map fun i => markS ((k + i : Nat) : Int)

end Go.Proofs.Ytpgcpmfemcfoaaa

/-
  The law on the question whether a list is a plan. (Walk.)
-/
namespace Go.Proofs.Ytpgcpmfemcfoaaa
open Go.RowKit

end Go.Proofs.Ytpgcpmfemcfoaaa
