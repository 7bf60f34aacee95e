
/-
  The program's texts: small letters, equal lists, a plan's rows. (Walks.)
-/
import Derived.Test.YtfemfmkgdgcemaaImplAB
import Derived.Test.YtfemfmkgdgcemaaLawA
import Derived.Test.YtfemfmkgdgcemaaSpecA
namespace Go.Proofs.Ytfemfmkgdgcemaa
open Go.RowKit

/-- a row of a plan's letters -/
def rowT (wd : Nat) (g : Nat → Nat → Nat) (i : Nat) : List UInt8 := (List.range wd).map fun j => UInt8.ofNat (97 + g i j)
/-- a plan's texts -/
def rowsT (h wd : Nat) (g : Nat → Nat → Nat) : List ByteArray := (List.range h).map fun i => ⟨(rowT wd g i).toArray⟩
theorem rowsT_len (h wd : Nat) (g : Nat → Nat → Nat) : (rowsT h wd g).length = h := by simp [rowsT]
theorem rowsT_succ (h wd : Nat) (g : Nat → Nat → Nat) : rowsT (h + 1) wd g = rowsT h wd g ++ [⟨(rowT wd g h).toArray⟩] := by simp [rowsT, List.range_succ]
theorem rowT_len (wd : Nat) (g : Nat → Nat → Nat) (i : Nat) : (rowT wd g i).length = wd := by simp [rowT]
theorem rowT_succ (wd : Nat) (g : Nat → Nat → Nat) (i : Nat) : rowT (wd + 1) g i = rowT wd g i ++ [UInt8.ofNat (97 + g i wd)] := by simp [rowT, List.range_succ]

theorem Try.infoByte2 : (Try.prog.info? 5).map (fun i => (i.zero, i.size, i.bytes)) = some (some (.int .u8 0), 1, 1) := by kernel_rfl
theorem Try.infoText2 : (Try.prog.info? 9).map (fun i => (i.zero, i.size, i.bytes)) = some (some (.string ⟨#[]⟩), 1, 16) := by kernel_rfl

end Go.Proofs.Ytfemfmkgdgcemaa
