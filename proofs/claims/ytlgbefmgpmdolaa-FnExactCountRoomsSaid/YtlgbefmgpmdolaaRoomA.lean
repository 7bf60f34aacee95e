
/-
  A room's box: the model's answer. (Walks.)
-/
import Derived.Test.YtlgbefmgpmdolaaRoomsA
import Derived.Test.YtlgbefmgpmdolaaMathF
namespace Go.Proofs.Ytlgbefmgpmdolaa
open Go.RowKit

/-- whether there are a plan and a room -/
def givenB (p : List ByteArray) (room : Int) : Bool := planB p && l6B room 0 (roomsB p - 1)
/-- a room's box, none for what is no room -/
def roomV (p : List ByteArray) (room : Int) : Box4 := if givenB p room then ⟨(boxB p room).top, (boxB p room).left, (boxB p room).low - (boxB p room).top + 1, (boxB p room).right - (boxB p room).left + 1⟩ else ⟨0, 0, 0, 0⟩
theorem roomV_yes {p : List ByteArray} {room : Int} (h : givenB p room = true) : roomV p room = ⟨(boxB p room).top, (boxB p room).left, (boxB p room).low - (boxB p room).top + 1, (boxB p room).right - (boxB p room).left + 1⟩ := by unfold roomV; rw [h]; rfl
theorem roomV_no {p : List ByteArray} {room : Int} (h : givenB p room = false) : roomV p room = ⟨0, 0, 0, 0⟩ := by unfold roomV; rw [h]; rfl

end Go.Proofs.Ytlgbefmgpmdolaa
