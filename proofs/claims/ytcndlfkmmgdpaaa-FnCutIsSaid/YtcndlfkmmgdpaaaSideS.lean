
/-
  The rooms of both sides of a wall: the model's answer. (Walks.)
-/
import Derived.Test.YtcndlfkmmgdpaaaOutl
import Derived.Test.YtcndlfkmmgdpaaaLong
import Derived.StillTailTactics
namespace Go.Proofs.Ytcndlfkmmgdpaaa
open Go.RowKit

theorem PlanP.room {p : List ByteArray} (hp : PlanP p) {i j : Nat} (hi : i < p.length) (hj : j < wideB p) : ((byteAt p i j).toNat : Int) - 97 = ((gridG p i j : Nat) : Int) := by
  have h1 := hp.grid.letter hi hj
  have h2 := markN_lt p i j
  rw [h1, UInt8.toNat_ofNat', ← hp.mark i j hi hj]
  omega

theorem putL_no {l : List Int} {x : Int} (h : ¬ l.getLast? = some x) : putL l x = l ++ [x] := if_neg h
theorem putL_yes {l : List Int} {x : Int} (h : l.getLast? = some x) : putL l x = l := if_pos h
theorem last_getD {l : List Int} (h : 0 < l.length) : l.getLast? = some (l.getD (l.length - 1) 0) := by
  rw [List.getLast?_eq_getElem?, List.getD_eq_getElem?_getD, List.getElem?_eq_getElem (by omega)]; rfl

theorem wallIn_plan {p : List ByteArray} {n : Int} (h : wallIn p n = true) : planB p = true := by
  cases hp : planB p
  · unfold wallIn at h; rw [wallsP_no hp] at h; simp only [Bool.and_eq_true, decide_eq_true_eq, List.length_nil] at h; omega
  · rfl
theorem planG_yes {p : List ByteArray} (h : planB p = true) : planG p = gridG p := by unfold planG; rw [if_pos h]

end Go.Proofs.Ytcndlfkmmgdpaaa
