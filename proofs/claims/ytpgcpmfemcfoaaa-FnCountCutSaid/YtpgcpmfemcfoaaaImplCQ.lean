/-
  The program's texts: small letters, equal lists, a plan's rows. (Walks.)
-/
import Derived.Test.YtpgcpmfemcfoaaaImplABQ
import Derived.Test.YtpgcpmfemcfoaaaLawKQ
import Derived.Test.YtpgcpmfemcfoaaaSpecAQ

namespace Go.Proofs.Ytpgcpmfemcfoaaa
open Go.RowKit

/-- a row of a plan's letters -/
def rowT (wd : Nat) (g : Nat → Nat → Nat) (i : Nat) : List UInt8 := (List.range wd).map fun j => UInt8.ofNat (97 + g i j)
/-- a plan's texts -/
def rowsT (h wd : Nat) (g : Nat → Nat → Nat) : List ByteArray := (List.range h).map fun i => ⟨(rowT wd g i).toArray⟩
theorem rowsT_len (h wd : Nat) (g : Nat → Nat → Nat) : (rowsT h wd g).length = h := by simp [rowsT]
theorem rowT_len (wd : Nat) (g : Nat → Nat → Nat) (i : Nat) : (rowT wd g i).length = wd := by simp [rowT]
end Go.Proofs.Ytpgcpmfemcfoaaa
