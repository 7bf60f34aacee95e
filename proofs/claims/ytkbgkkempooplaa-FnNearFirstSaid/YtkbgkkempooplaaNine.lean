
/-
  Rows of nine numbers. (Memory.)
-/
import Derived.Test.YtkbgkkempooplaaRow

namespace Go.Proofs.Ytkbgkkempooplaa
open Go.RowKit

/-- nine numbers -/
def nineC (v : Nat → Nat) : Array Value := ((List.range 9).map fun b => Value.int .i64 ((v b : Nat) : Int)).toArray
theorem nineC_size (v : Nat → Nat) : (nineC v).size = 9 := by simp [nineC]
theorem nineC_at {v : Nat → Nat} {b : Nat} (h : b < 9) : (nineC v)[b]? = some (.int .i64 ((v b : Nat) : Int)) := by simp [nineC, h]
theorem nineC_put (v : Nat → Nat) {b : Nat} (h : b < 9) (m : Nat) : (nineC v).setIfInBounds b (.int .i64 (m : Nat)) = nineC (fun x => if x = b then m else v x) := by
  apply Array.ext_getElem?
  intro i
  rw [Array.getElem?_setIfInBounds]
  by_cases hi : b = i
  · subst hi; rw [if_pos rfl, if_pos (by rw [nineC_size]; exact h), nineC_at h, if_pos rfl]
  · rw [if_neg hi]
    by_cases h9 : i < 9
    · rw [nineC_at h9, nineC_at h9, if_neg (fun e => hi e.symm)]
    · rw [Array.getElem?_eq_none (by rw [nineC_size]; omega), Array.getElem?_eq_none (by rw [nineC_size]; omega)]
theorem nineC_same {v v' : Nat → Nat} (h : ∀ b, b < 9 → v b = v' b) : nineC v = nineC v' := by
  unfold nineC
  congr 1
  refine List.map_congr_left fun i hi => ?_
  rw [h i (List.mem_range.1 hi)]
theorem zero_nine : nineC (fun _ => 0) = #[.int .i64 0, .int .i64 0, .int .i64 0, .int .i64 0, .int .i64 0, .int .i64 0, .int .i64 0, .int .i64 0, .int .i64 0] := by kernel_rfl
theorem zero_nineC (w : World) : (zeroValue 46).run Try.prog w = .ok (.agg (nineC fun _ => 0)) w := by
  rw [zero_nine]; exact Try.zeroValue46 w


end Go.Proofs.Ytkbgkkempooplaa
