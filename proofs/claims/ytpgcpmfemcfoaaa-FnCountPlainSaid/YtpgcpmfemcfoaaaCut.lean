
/-
  Merged texts: Held CutA CutB CutC CutM.
-/
import Derived.Test.YtpgcpmfemcfoaaaRow
import Derived.Test.YtpgcpmfemcfoaaaSpecWX
import Derived.Test.YtpgcpmfemcfoaaaLong
import Derived.Test.YtpgcpmfemcfoaaaList
import Derived.Deep.MidRow
import Derived.OrdersHeld
import Derived.BigQuiet

/-
  A region that draws its order, under a condition on the world that holds throughout: what it reads of held rows may be taken first. (No function of the program is named.)
-/
namespace Go.Proofs.Ytpgcpmfemcfoaaa
open Go.RowKit

theorem wpOp_go {P : Program} {ops : Array Oper} {Q : Exit → Act → World → Prop} {i : Nat} {o : Oper} {K : Act → World → Prop} {a : Act} {w : World} (hi : ops[i]? = some o) (hw : Region.wanted o (yielded ops a.tmps) = true) (h : o.wp P a w K Q) : wpOp P ops Q i K a w := by
  unfold wpOp
  simp only [hi, hw, if_true]
  exact .inl h
/-- a whole row may be read first, under a condition that holds it -/
theorem yieldsIf_load_row {P : Program} {ops : Array Oper} {S : World → Prop} {op : Oper} {a : Act} (hw : Region.wanted op (yielded ops a.tmps) = true) (ty : TypeId) (x : Operand) (ho : op.op = .load ty x)
    (g : Nat) (hx : a.eval x = .pointer (some ⟨g, 0, none⟩)) (t : TypeId) (cs : Array Value) (d : TypeDesc) (hS : ∀ w, S w → HeldB w g t cs)
    (hu : P.underlying ty = some d) (hd : (match d with | .struct _ | .array _ _ => true | _ => false) = true) (hi : (P.info? ty).map (·.size) = some cs.size) : YieldsIf P ops S op (.agg cs) a :=
  .inl ⟨hw, fun w hw' => by
    unfold execOp
    simp only [ho, hx, Instr.loadAt, Instr.sureAddr, Sem.run_bind, Sem.run_pure, Result.andThen_ok, run_loadVar_row w g t ty cs (0, 0) d (hS w hw') hu hd hi]⟩


end Go.Proofs.Ytpgcpmfemcfoaaa

/-
  The model asks walls whether they are cuts. (Walks.)
-/
namespace Go.Proofs.Ytpgcpmfemcfoaaa
open Go.RowKit

/-- a wall that goes from one end of a plan to the other one -/
def wcutB (h wd : Nat) (x : Wl) : Bool := decide (x.long = alongN h wd x.way)

end Go.Proofs.Ytpgcpmfemcfoaaa

/-
  How many cuts there are, and the first one: the model's answers. (Walks.)
-/
namespace Go.Proofs.Ytpgcpmfemcfoaaa
open Go.RowKit

def isCutP (p : List ByteArray) (x : Wl) : Bool := wcutB (planH p) (planW p) x
def cntC (f : Wl → Bool) (L : List Wl) : Nat := (L.filter f).length
theorem cntC_snoc (f : Wl → Bool) (L : List Wl) (x : Wl) : cntC f (L ++ [x]) = cntC f L + if f x = true then 1 else 0 := by
  unfold cntC
  rw [List.filter_append, List.length_append]
  by_cases h : f x = true <;> simp [h]
theorem cntC_le (f : Wl → Bool) (L : List Wl) : cntC f L ≤ L.length := List.length_filter_le _ _
theorem cntC_yes {f : Wl → Bool} {L : List Wl} {i : Nat} (hi : i < L.length) (h : f (L.getD i zeroWl) = true) : cntC f (L.take (i + 1)) = cntC f (L.take i) + 1 := by
  rw [take_snoc L i zeroWl hi, cntC_snoc, if_pos h]
theorem cntC_no {f : Wl → Bool} {L : List Wl} {i : Nat} (hi : i < L.length) (h : f (L.getD i zeroWl) = false) : cntC f (L.take (i + 1)) = cntC f (L.take i) := by
  rw [take_snoc L i zeroWl hi, cntC_snoc, if_neg (by rw [h]; decide)]; rfl
def cutN (p : List ByteArray) : Nat := cntC (isCutP p) (wallsP p)
def cutOk (p : List ByteArray) : Bool := (wallsP p).any (isCutP p)
def cutI (p : List ByteArray) : Nat := if cutOk p = true then (wallsP p).findIdx (isCutP p) else 0
theorem first_yes {f : Wl → Bool} {L : List Wl} {i : Nat} (hi : i < L.length) (h : f (L.getD i zeroWl) = true) (hno : ∀ j, j < i → f (L.getD j zeroWl) = false) : L.any f = true ∧ L.findIdx f = i := by
  have hg : ∀ j (hj : j < L.length), L.getD j zeroWl = L[j] := fun j hj => by simp [hj]
  refine ⟨List.any_eq_true.2 ⟨L.getD i zeroWl, getD_mem zeroWl hi, h⟩, ?_⟩
  rw [List.findIdx_eq hi]
  refine ⟨by rw [← hg i hi]; exact h, fun j hj => ?_⟩
  have := hno j hj
  rw [hg j (by omega)] at this
  simp [this]
theorem first_no {f : Wl → Bool} {L : List Wl} (hno : ∀ j, j < L.length → f (L.getD j zeroWl) = false) : L.any f = false := by
  rw [List.any_eq_false]
  intro x hx
  obtain ⟨j, hj, rfl⟩ := List.mem_iff_getElem.1 hx
  have := hno j hj
  simp [hj] at this
  simp [this]
theorem cut_no {p : List ByteArray} (h : planB p = false) : cutN p = 0 ∧ cutOk p = false ∧ cutI p = 0 := by
  have : cutOk p = false := by unfold cutOk; rw [wallsP_no h]; rfl
  refine ⟨by unfold cutN; rw [wallsP_no h]; rfl, this, by unfold cutI; rw [this]; rfl⟩

end Go.Proofs.Ytpgcpmfemcfoaaa

/-
  How many cuts there are, and the first one: the program's answers. (Walks.)
-/
namespace Go.Proofs.Ytpgcpmfemcfoaaa
open Go.RowKit

/-- the place of the first wall that a function tells, or -1 -/
def firstI (f : Wl → Bool) (L : List Wl) : Int := if L.any f = true then (L.findIdx f : Nat) else -1

theorem cutMany_prog (p : List ByteArray) : cutN p = cntC (wcutB (planH p) (planW p)) (wallsP p) := rfl

theorem firstI_lt (f : Wl → Bool) (L : List Wl) : decide (firstI f L < 0) = !(L.any f) := by
  unfold firstI
  cases L.any f <;> simp

end Go.Proofs.Ytpgcpmfemcfoaaa

/-
  The first cut goes from end to end. (Mathematics.)
-/
namespace Go.Proofs.Ytpgcpmfemcfoaaa
open Go.RowKit

theorem cut_math {p : List ByteArray} (h : cutOk p = true) : planB p = true ∧ cutI p < (listOr p).length ∧ 1 ≤ cutN p ∧ cutN p ≤ 72 ∧
    ∃ X : Wl, (listOr p).getD (cutI p) [] = wlN X ∧ X.way < 2 ∧ X.long = (if X.way = 0 then p.length else wideB p) := by
  have hp : planB p = true := by
    cases hp : planB p
    · rw [(cut_no hp).2.1] at h; cases h
    · rfl
  have h0 : (wallsP p).any (isCutP p) = true := h
  have hi : cutI p < (wallsP p).length := by
    unfold cutI
    rw [if_pos h, List.findIdx_lt_length]
    obtain ⟨x, hx, hy⟩ := List.any_eq_true.1 h0
    exact ⟨x, hx, hy⟩
  have hf : isCutP p ((wallsP p).getD (cutI p) zeroWl) = true := by
    have := List.findIdx_getElem (p := isCutP p) (xs := wallsP p) (w := by unfold cutI at hi; rw [if_pos h] at hi; exact hi)
    rw [List.getD_eq_getElem?_getD, List.getElem?_eq_getElem hi, Option.getD_some]
    unfold cutI
    simp only [if_pos h]
    exact this
  refine ⟨hp, by unfold listOr; rw [List.length_map]; exact hi, ?_, ?_, (wallsP p).getD (cutI p) zeroWl, ?_, ?_, ?_⟩
  · unfold cutN cntC
    have : (wallsP p).getD (cutI p) zeroWl ∈ (wallsP p).filter (isCutP p) := List.mem_filter.2 ⟨getD_mem zeroWl hi, hf⟩
    exact List.length_pos_of_mem this
  · exact Nat.le_trans (cntC_le _ _) (wallsP_len p)
  · unfold listOr; exact wlN_getD hi
  · exact (wallsG_mem (getD_mem zeroWl hi)).1
  · have h2 : ((wallsP p).getD (cutI p) zeroWl).long = alongN (planH p) (planW p) ((wallsP p).getD (cutI p) zeroWl).way := of_decide_eq_true hf
    rw [h2]
    unfold alongN planH planW
    rw [if_pos hp, if_pos hp]

end Go.Proofs.Ytpgcpmfemcfoaaa
