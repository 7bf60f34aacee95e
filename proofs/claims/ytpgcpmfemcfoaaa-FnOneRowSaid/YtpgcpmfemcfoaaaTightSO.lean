/-
  Rows of six numbers: read by value out of a plan, and compared. (Runs of single operations.)
-/
import Derived.Test.YtpgcpmfemcfoaaaRowO
import Derived.Test.YtpgcpmfemcfoaaaTurnsO
import Derived.Test.YtpgcpmfemcfoaaaTightMO
import Derived.Test.YtpgcpmfemcfoaaaBytesO
import Derived.Deep.MidRow
import Derived.ChangeKeysEq

namespace Go.Proofs.Ytpgcpmfemcfoaaa
open Go.RowKit

section
variable {P : Program} {ops : Array Oper} {C : World → Prop} {Q : Act → Prop} {a : Act} {o : Oper} {rest : List Oper}

theorem wpQuiet_value (hw : Region.wanted o (yielded ops a.tmps) = true) (v : Value) (hrun : ∀ w, C w → (execOp a.eval o).run P w = .ok (.value v) w) (h : wpQuiet P ops C Q rest (a.put o.dst v)) : wpQuiet P ops C Q (o :: rest) a :=
  BigFrame.wpQuiet_want hw fun K hK => ⟨v, fun w hC => by unfold Oper.quietAt; rw [hrun w hC]; exact ⟨rfl, rfl⟩, hK _ h⟩

theorem wpQuiet_load_mid (hw : Region.wanted o (yielded ops a.tmps) = true) (ty : TypeId) (x : Operand) (ho : o.op = .load ty x)
    (b off : Nat) (hx : a.eval x = .pointer (some ⟨b, off, none⟩)) (cs : List Value) (A : Array Value) (hA : cs.toArray = A) (d : TypeDesc) (hc : ∀ w, C w → w.rangeAt b off cs)
    (hu : P.underlying ty = some d) (hd : d.isRow = true) (hi : (P.info? ty).map (·.size) = some cs.length)
    (h : wpQuiet P ops C Q rest (a.put o.dst (.agg A))) : wpQuiet P ops C Q (o :: rest) a := by
  subst hA
  exact wpQuiet_value hw _ (fun w hC => by
    unfold execOp
    simp only [ho, hx, Instr.loadAt, Instr.sureAddr, Sem.run_bind, Sem.run_pure, Result.andThen_ok, run_loadVar_mid w b off ty cs d (hc w hC) hu hd hi]) h

theorem wpQuiet_bin (hw : Region.wanted o (yielded ops a.tmps) = true) (op : BinOp) (t t2 : TypeId) (x y : Operand) (ho : o.op = .binOp op t x y t2) (v : Value)
    (hgd : ∀ w, (eqGuard op t x y (a.eval x) (a.eval y)).run P w = .ok () w) (hrun : ∀ w, (binOp op t (a.eval x) (a.eval y)).run P w = .ok v w) (h : wpQuiet P ops C Q rest (a.put o.dst v)) : wpQuiet P ops C Q (o :: rest) a :=
  wpQuiet_value hw v (fun w _ => by
    unfold execOp
    simp only [ho]
    simp [hgd w, hrun w, Result.andThen]) h
end

def six (x : Nat → Int) : List Value := (List.range 6).map fun j => .int .i64 (x j)
end Go.Proofs.Ytpgcpmfemcfoaaa

/-
  Merged texts: ImplT SpecT TightA.
-/
/-
  The program leaves out rows and columns that repeat the one ahead of them. (Walks.)
-/
namespace Go.Proofs.Ytpgcpmfemcfoaaa
open Go.RowKit

/-- numbers as the program keeps them -/
def natV (l : List Nat) : List Value := (l.map fun n : Nat => (n : Int)).map (Value.int .i64)

theorem Try.infoNum : (Try.prog.info? 3).map (fun i => (i.zero, i.size, i.bytes)) = some (some (.int .i64 0), 1, 8) := by kernel_rfl
/-- what lies in the program's memory while rows and columns are told apart -/
structure TightSt (w wr : World) (C : Array Value) (ro : Option Addr) (rc : Nat) (LR : List Nat) (co : Option Addr) (cc : Nat) (LC : List Nat) : Prop where
  plan : HeldB wr w.heap.size 47 C
  zero : HeldB wr (w.heap.size + 1) 47 zeroC
  rcell : HeldB wr (w.heap.size + 1 + 1) 32 #[.slice ro LR.length rc]
  ccell : HeldB wr (w.heap.size + 1 + 1 + 1) 32 #[.slice co LC.length cc]
  rows : wr.ownsRow (w.heap.size + 4) 3 1 (.slice ro LR.length rc) LR.length (natV LR)
  cols : wr.ownsRow (w.heap.size + 4) 3 1 (.slice co LC.length cc) LC.length (natV LC)
  apart : Apart ro co
  below : Below w.heap.size w wr
  size : w.heap.size + 4 ≤ wr.heap.size

theorem TightSt.step {w wr w2 : World} {C : Array Value} {ro : Option Addr} {rc : Nat} {LR : List Nat} {co : Option Addr} {cc : Nat} {LC : List Nat} (h : TightSt w wr C ro rc LR co cc LC) (hb : Below wr.heap.size wr w2) : TightSt w w2 C ro rc LR co cc LC :=
  ⟨h.plan.below hb, h.zero.below hb, h.rcell.below hb, h.ccell.below hb, ownsRow_below h.rows hb, ownsRow_below h.cols hb, h.apart, below_step h.below h.below.size hb, Nat.le_trans h.size hb.size⟩
theorem TightSt.drewN {w wr : World} {C : Array Value} {ro : Option Addr} {rc : Nat} {LR : List Nat} {co : Option Addr} {cc : Nat} {LC : List Nat} (h : TightSt w wr C ro rc LR co cc LC) (n : Nat) : TightSt w (wr.drewN n) C ro rc LR co cc LC :=
  h.step (below_drewN _ _ _)

end Go.Proofs.Ytpgcpmfemcfoaaa

/-
  The model leaves out rows, and then columns. (Walks.)
-/
namespace Go.Proofs.Ytpgcpmfemcfoaaa
open Go.RowKit

end Go.Proofs.Ytpgcpmfemcfoaaa

/-
  Plans made tight: the program's answer. (Walk.)
-/
namespace Go.Proofs.Ytpgcpmfemcfoaaa
open Go.RowKit

end Go.Proofs.Ytpgcpmfemcfoaaa
