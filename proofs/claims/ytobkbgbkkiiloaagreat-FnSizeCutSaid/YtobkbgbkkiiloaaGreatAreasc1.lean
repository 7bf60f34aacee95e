/-
  Merged texts: Fence Areas.
-/
import Derived.Test.YtobkbgbkkiiloaaGreatImplDEc1
import Derived.Test.YtobkbgbkkiiloaaGreatRowc1
import Derived.Test.YtobkbgbkkiiloaaGreatRoomAc1
import Derived.Test.YtobkbgbkkiiloaaGreatTightSc1
import Derived.Test.YtobkbgbkkiiloaaGreatImplKc1
import Derived.Test.YtobkbgbkkiiloaaGreatTurnsc1
import Derived.RangeFuncBox
import Derived.BigQuiet

/-
  Single operations inside a fence, and inside a fence's region that draws its order.
-/
namespace Go.Proofs.YtobkbgbkkiiloaaGreat
open Go.RowKit Go.Shelf

variable {F : Fence} {n : Nat} {P : Program} {ops : Array Oper} {rest : List Oper} {o : Oper} {a : Act} {w w' : World} {Q : Exit → Act → World → Prop}

end Go.Proofs.YtobkbgbkkiiloaaGreat

/-
  Merged texts: AreasS AreasI AreasA SumM.
-/
/-
  The numbers of cells of rooms: the model's answer. (Walk.)
-/
namespace Go.Proofs.YtobkbgbkkiiloaaGreat
open Go.RowKit

end Go.Proofs.YtobkbgbkkiiloaaGreat

/-
  The numbers of cells of rooms: the program's answer. (Walk inside a fence.)
-/
namespace Go.Proofs.YtobkbgbkkiiloaaGreat
open Go.RowKit Go.Shelf

attribute [local go_sem] Oper.semAt_some

theorem heldB_not_row {W : World} {B : Nat} {t e : TypeId} {cs : Array Value} (h : HeldB W B t cs) (hte : t ≠ e) {base size k : Nat} {v : Value} {xs : List Value} (hr : W.ownsRow base e size v k xs) : some B ≠ v.ownBlock := by
  rcases hr.2 with ⟨rfl, _⟩ | ⟨g, cap, cur, rfl, _, hgb, _⟩
  · simp [Value.ownBlock]
  · intro e'
    obtain rfl : B = g := by simpa [Value.ownBlock] using e'
    have := (show W.heap[B]? = _ from h).symm.trans hgb
    simp at this
    exact hte this.2

end Go.Proofs.YtobkbgbkkiiloaaGreat

/-
  The numbers of cells of rooms: the program's answer is the model's. (Walk inside a fence.)
-/
namespace Go.Proofs.YtobkbgbkkiiloaaGreat
open Go.RowKit Go.Shelf

attribute [local go_sem] Oper.semAt_some

end Go.Proofs.YtobkbgbkkiiloaaGreat

/-
  Areas fill the plan; a list of numbers is added up. (Mathematics and a walk.)
-/
namespace Go.Proofs.YtobkbgbkkiiloaaGreat
open Go.RowKit

end Go.Proofs.YtobkbgbkkiiloaaGreat
