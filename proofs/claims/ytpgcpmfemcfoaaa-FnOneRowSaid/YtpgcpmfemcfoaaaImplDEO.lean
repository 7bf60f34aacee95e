/-
  Merged texts: ImplD ImplE.
-/
import Derived.Test.YtpgcpmfemcfoaaaImplABO
import Derived.Test.YtpgcpmfemcfoaaaRowO
import Derived.RangeFuncNested
import Derived.RangeFuncBound
import Derived.RangeFuncCalls
import Derived.RangeFuncLeaves
import Derived.Shelf.Abstract
import Derived.Shelf.RegionOpen
import Derived.WalkKit
import Derived.OwnWalkIn
import Derived.TacticsInMore
import Derived.LoopNIn
import Derived.LoopIn

/-
  The program's iterator over boxes. (Walk inside a fence.)
-/
namespace Go.Proofs.Ytpgcpmfemcfoaaa
open Go.RowKit Go.Shelf

attribute [local go_sem] Oper.semAt_some

theorem wpListIn_load_row {F : Fence} {n : Nat} {P : Program} {ops : Array Oper} {rest : List Oper} {o : Oper} {a : Act} {w : World} {Q : Exit → Act → World → Prop} (hgd : o.guard = none) (ty : TypeId) (x : Operand) (ho : o.op = .load ty x)
    (g : Nat) (hx : a.eval x = .pointer (some ⟨g, 0, none⟩)) (t : TypeId) (cs : Array Value) (fr : Nat × Nat) (d : TypeDesc) (hg : w.heap[g]? = some (.cells cs t fr))
    (hu : P.underlying ty = some d) (hd : (match d with | .struct _ | .array _ _ => true | _ => false) = true) (hi : (P.info? ty).map (·.size) = some cs.size)
    (h : wpListIn F n P ops Q rest (a.put o.dst (.agg cs)) w) : wpListIn F n P ops Q (o :: rest) a w := by
  refine wpListIn_plain hgd fun K hK' => ?_
  unfold Oper.wpIn
  refine ⟨?_, ?_⟩
  · simp [Oper.about, ho]
  · rw [Oper.semAt_plain F _ _ (by rw [ho]; intro c hc'; cases hc')]
    have hr := run_loadVar_row (P := P) w g t ty cs fr d hg hu hd hi
    unfold execOp
    simp only [ho, hx, Instr.loadAt, Instr.sureAddr, Sem.run_bind, Sem.run_pure, Result.andThen_ok, hr]
    exact hK' _ _ h

/-- a room and its box, within six rows and columns -/
structure Bx where
  room : Nat
  row : Nat
  col : Nat
  high : Nat
  wide : Nat
  hrow : row + high ≤ 6
  hcol : col + wide ≤ 6
  hroom : room ≤ 36

def Bx.val (x : Bx) : Value := .agg #[.int .i64 x.row, .int .i64 x.col, .int .i64 x.high, .int .i64 x.wide]
/-- the box that is told for a first cell; nothing of it matters beyond the plan -/
def mkBx (h wd : Nat) (g : Nat → Nat → Nat) (room row col : Nat) : Bx :=
  if hx : row + boxHigh h g row col ≤ 6 ∧ col + boxWide wd g row col ≤ 6 ∧ room ≤ 36 then ⟨room, row, col, boxHigh h g row col, boxWide wd g row col, hx.1, hx.2.1, hx.2.2⟩
  else ⟨0, 0, 0, 0, 0, by omega, by omega, by omega⟩

theorem boxHigh_le (h : Nat) (g : Nat → Nat → Nat) (row col : Nat) (hr : row ≤ h) : row + boxHigh h g row col ≤ h := by
  have := runLen_le (h - row) (fun t => g (row + t) col == g row col)
  unfold boxHigh; omega
theorem boxWide_le (wd : Nat) (g : Nat → Nat → Nat) (row col : Nat) (hc : col ≤ wd) : col + boxWide wd g row col ≤ wd := by
  have := runLen_le (wd - col) (fun t => g row (col + t) == g row col)
  unfold boxWide; omega

/-- the boxes that have come when t cells are over -/
def scanB (h wd : Nat) (g : Nat → Nat → Nat) : Nat → List Bx
  | 0 => []
  | t + 1 => if g (t / wd) (t % wd) = (scanB h wd g t).length then scanB h wd g t ++ [mkBx h wd g (scanB h wd g t).length (t / wd) (t % wd)] else scanB h wd g t

theorem scanB_len (h wd : Nat) (g : Nat → Nat → Nat) : ∀ t, (scanB h wd g t).length ≤ t
  | 0 => Nat.le_refl _
  | t + 1 => by
    have := scanB_len h wd g t
    rw [scanB]
    split
    · rw [List.length_append]; simp; omega
    · omega

theorem cell_div (i j wd : Nat) (hj : j < wd) : (i * wd + j) / wd = i ∧ (i * wd + j) % wd = j := by
  constructor
  · rw [Nat.mul_comm, Nat.mul_add_div (by omega), Nat.div_eq_of_lt hj, Nat.add_zero]
  · rw [Nat.mul_comm, Nat.mul_add_mod, Nat.mod_eq_of_lt hj]

end Go.Proofs.Ytpgcpmfemcfoaaa

/-
  The program asks whether a plan is filled by boxes. (Walk inside a fence.)
-/
namespace Go.Proofs.Ytpgcpmfemcfoaaa
open Go.RowKit Go.Shelf

attribute [local go_sem] Oper.semAt_some

def Bx.alone (g : Nat → Nat → Nat) (x : Bx) : Bool := aloneB g x.room x.row x.col x.high x.wide
def sumB (l : List Bx) : Nat := (l.map fun x => x.high * x.wide).foldl (· + ·) 0
theorem sumB_snoc (l : List Bx) (x : Bx) : sumB (l ++ [x]) = sumB l + x.high * x.wide := by simp [sumB]
/-- a plan is filled by its boxes -/
def filledB (h wd : Nat) (g : Nat → Nat → Nat) : Bool := (scanB h wd g (h * wd)).all (Bx.alone g) && (sumB (scanB h wd g (h * wd)) == h * wd)

end Go.Proofs.Ytpgcpmfemcfoaaa
