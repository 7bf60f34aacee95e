/-
  Merged texts: ImplT SpecT TightA.
-/
import Derived.Test.YtlgbefmgpmdolaaTurnsR
import Derived.Test.YtlgbefmgpmdolaaTightMR
import Derived.Test.YtlgbefmgpmdolaaBytesR
import Derived.Test.YtlgbefmgpmdolaaArrR

/-
  The program leaves out rows and columns that repeat the one ahead of them. (Walks.)
-/
namespace Go.Proofs.Ytlgbefmgpmdolaa
open Go.RowKit

/-- numbers as the program keeps them -/
def natV (l : List Nat) : List Value := (l.map fun n : Nat => (n : Int)).map (Value.int .i64)

theorem Try.infoNum : (Try.prog.info? 3).map (fun i => (i.zero, i.size, i.bytes)) = some (some (.int .i64 0), 1, 8) := by kernel_rfl
/-- what lies in the program's memory while rows and columns are told apart -/
structure TightSt (w wr : World) (C : Array Value) (ro : Option Addr) (rc : Nat) (LR : List Nat) (co : Option Addr) (cc : Nat) (LC : List Nat) : Prop where
  plan : HeldB wr w.heap.size 46 C
  zero : HeldB wr (w.heap.size + 1) 46 zeroC
  rcell : HeldB wr (w.heap.size + 1 + 1) 22 #[.slice ro LR.length rc]
  ccell : HeldB wr (w.heap.size + 1 + 1 + 1) 22 #[.slice co LC.length cc]
  rows : wr.ownsRow (w.heap.size + 4) 3 1 (.slice ro LR.length rc) LR.length (natV LR)
  cols : wr.ownsRow (w.heap.size + 4) 3 1 (.slice co LC.length cc) LC.length (natV LC)
  apart : Apart ro co
  below : Below w.heap.size w wr
  size : w.heap.size + 4 ≤ wr.heap.size

theorem TightSt.step {w wr w2 : World} {C : Array Value} {ro : Option Addr} {rc : Nat} {LR : List Nat} {co : Option Addr} {cc : Nat} {LC : List Nat} (h : TightSt w wr C ro rc LR co cc LC) (hb : Below wr.heap.size wr w2) : TightSt w w2 C ro rc LR co cc LC :=
  ⟨h.plan.below hb, h.zero.below hb, h.rcell.below hb, h.ccell.below hb, ownsRow_below h.rows hb, ownsRow_below h.cols hb, h.apart, below_step h.below h.below.size hb, Nat.le_trans h.size hb.size⟩
theorem TightSt.drewN {w wr : World} {C : Array Value} {ro : Option Addr} {rc : Nat} {LR : List Nat} {co : Option Addr} {cc : Nat} {LC : List Nat} (h : TightSt w wr C ro rc LR co cc LC) (n : Nat) : TightSt w (wr.drewN n) C ro rc LR co cc LC :=
  h.step (below_drewN _ _ _)

end Go.Proofs.Ytlgbefmgpmdolaa

/-
  The model leaves out rows, and then columns. (Walks.)
-/
namespace Go.Proofs.Ytlgbefmgpmdolaa
open Go.RowKit

end Go.Proofs.Ytlgbefmgpmdolaa

/-
  Plans made tight: the program's answer. (Walk.)
-/
namespace Go.Proofs.Ytlgbefmgpmdolaa
open Go.RowKit

end Go.Proofs.Ytlgbefmgpmdolaa
