/-
  Plans that are cut and their orders: rooms ahead of an upright cut are left of those behind it, rooms ahead of a level one above them. (Plain mathematics.)
-/
import Derived.Test.YtpgcpmfemcfoaaaOrdPXR
import Derived.Test.YtpgcpmfemcfoaaaGui3R
import Derived.Test.YtpgcpmfemcfoaaaSpecWXR
import Derived.Test.YtpgcpmfemcfoaaaCutR
import Derived.Test.YtpgcpmfemcfoaaaSideSR
import Derived.Test.YtpgcpmfemcfoaaaAreasR
import Derived.BigQuiet

namespace Go.Proofs.Ytpgcpmfemcfoaaa

/-- a room with a cell in a rectangle -/
def Rc.In (R : Rc) (g : Nat → Nat → Nat) (a : Nat) : Prop := ∃ i j, R.has i j ∧ g i j = a
theorem Rc.Clo.cell {R : Rc} {g : Nat → Nat → Nat} {h wd : Nat} (C : R.Clo g h wd) {a i j : Nat} (ha : R.In g a) (hi : i < h) (hj : j < wd) (e : g i j = a) : R.has i j := by
  obtain ⟨x, y, hxy, rfl⟩ := ha
  exact C.clo x y i j hxy hi hj e
end Go.Proofs.Ytpgcpmfemcfoaaa

/-
  Merged texts: Gui2 GuiK GuiO.
-/
/-
  Merged texts: GuiL GuiA GuiB GuiC GuiD.
-/
/-
  Plans that are cut: what the model looks at is a rectangle of the plan. Plain mathematics; no function of the program is named.
-/
namespace Go.Proofs.Ytpgcpmfemcfoaaa
open Go.RowKit

/-! # walls from end to end -/
/-! # the first of a list -/
/-! # texts and their cuts -/
/-! # rectangles of texts -/
end Go.Proofs.Ytpgcpmfemcfoaaa

/-
  Plans that are cut: the model asks whether cells are of one room, for the first cut, and for both parts. (Walks.)
-/
namespace Go.Proofs.Ytpgcpmfemcfoaaa
open Go.RowKit

end Go.Proofs.Ytpgcpmfemcfoaaa

/-
  Plans that are cut: the model's parts of a cut. (Walks.)
-/
namespace Go.Proofs.Ytpgcpmfemcfoaaa
open Go.RowKit

end Go.Proofs.Ytpgcpmfemcfoaaa

/-
  Plans that are cut: the model's cut text. (Walks.)
-/
namespace Go.Proofs.Ytpgcpmfemcfoaaa
open Go.RowKit

end Go.Proofs.Ytpgcpmfemcfoaaa

/-
  Plans that are cut: the model's answers whether, and how, a plan is cut. (Walks.)
-/
namespace Go.Proofs.Ytpgcpmfemcfoaaa
open Go.RowKit

end Go.Proofs.Ytpgcpmfemcfoaaa

/-
  Parts of plans: all of a plan. (Walk inside a fence.)
-/
namespace Go.Proofs.Ytpgcpmfemcfoaaa
open Go.RowKit Go.Shelf

attribute [local go_sem] Oper.semAt_some

end Go.Proofs.Ytpgcpmfemcfoaaa

/-
  The program asks whether a plan is cuttable. (Walks.)
-/
namespace Go.Proofs.Ytpgcpmfemcfoaaa
open Go.RowKit

end Go.Proofs.Ytpgcpmfemcfoaaa
