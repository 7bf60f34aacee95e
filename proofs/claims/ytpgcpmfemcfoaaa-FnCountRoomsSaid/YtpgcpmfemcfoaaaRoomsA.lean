
/-
  The number of rooms: the model's and the program's. (Walks.)
-/
import Derived.Test.YtpgcpmfemcfoaaaTurns
namespace Go.Proofs.Ytpgcpmfemcfoaaa
open Go.RowKit

/-- the number of rooms, none for what is no plan -/
def roomsOr (p : List ByteArray) : Int := if planB p then roomsB p else 0
theorem roomsOr_yes {p : List ByteArray} (h : planB p = true) : roomsOr p = roomsB p := by unfold roomsOr; rw [h]; rfl
theorem roomsOr_no {p : List ByteArray} (h : planB p = false) : roomsOr p = 0 := by unfold roomsOr; rw [h]; rfl

end Go.Proofs.Ytpgcpmfemcfoaaa
