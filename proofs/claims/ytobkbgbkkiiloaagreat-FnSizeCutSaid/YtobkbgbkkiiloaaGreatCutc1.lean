/-
  Merged texts: Held CutA CutB CutC CutM.
-/
import Derived.Test.YtobkbgbkkiiloaaGreatRowc1
import Derived.Test.YtobkbgbkkiiloaaGreatSpecWXc1
import Derived.Test.YtobkbgbkkiiloaaGreatLongc1
import Derived.Test.YtobkbgbkkiiloaaGreatListc1
import Derived.Deep.MidRow
import Derived.OrdersHeld
import Derived.BigQuiet

/-
  A region that draws its order, under a condition on the world that holds throughout: what it reads of held rows may be taken first. (No function of the program is named.)
-/
namespace Go.Proofs.YtobkbgbkkiiloaaGreat
open Go.RowKit

theorem wpOp_go {P : Program} {ops : Array Oper} {Q : Exit → Act → World → Prop} {i : Nat} {o : Oper} {K : Act → World → Prop} {a : Act} {w : World} (hi : ops[i]? = some o) (hw : Region.wanted o (yielded ops a.tmps) = true) (h : o.wp P a w K Q) : wpOp P ops Q i K a w := by
  unfold wpOp
  simp only [hi, hw, if_true]
  exact .inl h
/-- a whole row may be read first, under a condition that holds it -/
theorem yieldsIf_load_row {P : Program} {ops : Array Oper} {S : World → Prop} {op : Oper} {a : Act} (hw : Region.wanted op (yielded ops a.tmps) = true) (ty : TypeId) (x : Operand) (ho : op.op = .load ty x)
    (g : Nat) (hx : a.eval x = .pointer (some ⟨g, 0, none⟩)) (t : TypeId) (cs : Array Value) (d : TypeDesc) (hS : ∀ w, S w → HeldB w g t cs)
    (hu : P.underlying ty = some d) (hd : (match d with | .struct _ | .array _ _ => true | _ => false) = true) (hi : (P.info? ty).map (·.size) = some cs.size) : YieldsIf P ops S op (.agg cs) a :=
  .inl ⟨hw, fun w hw' => by
    unfold execOp
    simp only [ho, hx, Instr.loadAt, Instr.sureAddr, Sem.run_bind, Sem.run_pure, Result.andThen_ok, run_loadVar_row w g t ty cs (0, 0) d (hS w hw') hu hd hi]⟩

end Go.Proofs.YtobkbgbkkiiloaaGreat

/-
  The model asks walls whether they are cuts. (Walks.)
-/
namespace Go.Proofs.YtobkbgbkkiiloaaGreat
open Go.RowKit

end Go.Proofs.YtobkbgbkkiiloaaGreat

/-
  How many cuts there are, and the first one: the model's answers. (Walks.)
-/
namespace Go.Proofs.YtobkbgbkkiiloaaGreat
open Go.RowKit

end Go.Proofs.YtobkbgbkkiiloaaGreat

/-
  How many cuts there are, and the first one: the program's answers. (Walks.)
-/
namespace Go.Proofs.YtobkbgbkkiiloaaGreat
open Go.RowKit

end Go.Proofs.YtobkbgbkkiiloaaGreat

/-
  The first cut goes from end to end. (Mathematics.)
-/
namespace Go.Proofs.YtobkbgbkkiiloaaGreat
open Go.RowKit

end Go.Proofs.YtobkbgbkkiiloaaGreat
