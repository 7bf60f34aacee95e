/-
  Merged texts: LongA LongB.
-/
import Derived.Test.YtpgcpmfemcfoaaaSpecWXO
import Derived.Test.YtpgcpmfemcfoaaaTightSO

/-
  The longest wall: comparing, searching. (Walks, and the mathematics of it.)
-/
namespace Go.Proofs.Ytpgcpmfemcfoaaa
open Go.RowKit

theorem HeldB.range {W : World} {B : Nat} {t : TypeId} {C : Array Value} (h : HeldB W B t C) : W.rangeAt B 0 C.toList := fun j v hv => by
  rw [Nat.zero_add, h.cell j, ← hv]; simp
/-! ### the longest wall -/

end Go.Proofs.Ytpgcpmfemcfoaaa

/-
  The longest wall: the model's answer. (Walk.)
-/
namespace Go.Proofs.Ytpgcpmfemcfoaaa
open Go.RowKit

theorem wlN_getD {L : List Wl} {i : Nat} (hi : i < L.length) : (L.map wlN).getD i [] = wlN (L.getD i zeroWl) := by simp [hi]
end Go.Proofs.Ytpgcpmfemcfoaaa
