/-
  Merged texts: SideA SideB SideC EndS EndT.
-/
import Derived.Test.YtlgbefmgpmdolaaSpecWXQ
import Derived.Test.YtlgbefmgpmdolaaLawsQ
import Derived.StillTail
import Derived.Lib.QuietBelow
import Derived.Lib.SliceRun
import Derived.BigQuiet

/-
  Lists without repeats beside each other: the mathematics, and the library's function that makes them. (Walk.)
-/
namespace Go.Proofs.Ytlgbefmgpmdolaa
open Go.RowKit

/-- a number put behind a list that does not end with it -/
def putL (l : List Int) (x : Int) : List Int := if l.getLast? = some x then l else l ++ [x]
/-- a list without repeats beside each other -/
def compactL (xs : List Int) : List Int := xs.foldl putL []
/-- a block of the call's own, whose first cells are these numbers -/
def OwnNums (w : World) (g cap : Nat) (ys : List Int) : Prop := ∃ cur : Array Value, HeldB w g 3 cur ∧ cur.size = cap ∧ ys.length ≤ cap ∧ cap ≤ maxLen ∧ cur.toList.take ys.length = ys.map (Value.int .i64)

theorem OwnNums.at_ {cur : Array Value} {ys : List Int} (ht : cur.toList.take ys.length = ys.map (Value.int .i64)) {i : Nat} (hi : i < ys.length) : cur[i]? = some (.int .i64 (ys.getD i 0)) := by
  have h1 : (cur.toList.take ys.length)[i]? = (ys.map (Value.int .i64))[i]? := by rw [ht]
  rw [List.getElem?_take_of_lt hi] at h1
  rw [← Array.getElem?_toList, h1]
  simp [hi]
theorem OwnNums.cell {w : World} {g cap : Nat} {ys : List Int} (h : OwnNums w g cap ys) {i : Nat} (hi : i < ys.length) : w.cell? ⟨g, i, none⟩ = some (.int .i64 (ys.getD i 0)) := by
  obtain ⟨cur, hh, _, _, _, ht⟩ := h
  rw [hh.cell i]; exact OwnNums.at_ ht hi
theorem OwnNums.frozen {w : World} {g cap : Nat} {ys : List Int} (h : OwnNums w g cap ys) (i : Nat) : w.frozen? ⟨g, i, none⟩ = false := by
  obtain ⟨cur, hh, _⟩ := h; exact hh.frozen i
theorem OwnNums.set {w : World} {g cap : Nat} {ys : List Int} (h : OwnNums w g cap ys) {i : Nat} (_hi : i < ys.length) (v : Int) : OwnNums (w.setCell ⟨g, i, none⟩ (.int .i64 v)) g cap (ys.set i v) := by
  obtain ⟨cur, hh, h1, h2, h3, ht⟩ := h
  refine ⟨_, hh.set i (.int .i64 v), by simp [h1], by rw [List.length_set]; exact h2, h3, ?_⟩
  rw [List.length_set, Array.toList_setIfInBounds, List.take_set, ht, List.map_set]
theorem OwnNums.drewN {w : World} {g cap : Nat} {ys : List Int} (h : OwnNums w g cap ys) (n : Nat) : OwnNums (w.drewN n) g cap ys := h
theorem OwnNums.lt {w : World} {g cap : Nat} {ys : List Int} (h : OwnNums w g cap ys) : g < w.heap.size := by
  obtain ⟨cur, hh, _⟩ := h; exact hh.lt
theorem OwnNums.owns {w : World} {g cap base : Nat} {ys : List Int} (h : OwnNums w g cap ys) (hg : base ≤ g) (k : Nat) (hk : k ≤ ys.length) : w.ownsRow base 3 1 (.slice (some ⟨g, 0, none⟩) k cap) k ((ys.take k).map (Value.int .i64)) := by
  obtain ⟨cur, hh, h1, h2, h3, ht⟩ := h
  refine ⟨by rw [List.length_map, List.length_take]; omega, .inr ⟨g, cap, cur, rfl, hg, hh, by omega, h3, by omega, ?_⟩⟩
  rw [Nat.mul_one, List.map_take, ← ht, List.take_take, Nat.min_eq_left hk]
end Go.Proofs.Ytlgbefmgpmdolaa

/-
  The rooms of both sides of a wall: the program's answer. (Walks.)
-/
namespace Go.Proofs.Ytlgbefmgpmdolaa
open Go.RowKit

/-- the rooms on both sides, cell by cell -/
def cellsA (g : Nat → Nat → Nat) (X : Wl) (t : Nat) : List Int := (List.range t).map fun s => ((sideA g X.way X.line (X.first + s) : Nat) : Int)
def cellsB' (g : Nat → Nat → Nat) (X : Wl) (t : Nat) : List Int := (List.range t).map fun s => ((sideB g X.way X.line (X.first + s) : Nat) : Int)
end Go.Proofs.Ytlgbefmgpmdolaa

/-
  The rooms of both sides of a wall told by its number: the program's answer. (Walk.)
-/
namespace Go.Proofs.Ytlgbefmgpmdolaa
open Go.RowKit

end Go.Proofs.Ytlgbefmgpmdolaa

/-
  The model counts ends of walls at the outline. (Walks.)
-/
namespace Go.Proofs.Ytlgbefmgpmdolaa
open Go.RowKit

end Go.Proofs.Ytlgbefmgpmdolaa

/-
  Ends at the outline: the model's answer. (Walks.)
-/
namespace Go.Proofs.Ytlgbefmgpmdolaa
open Go.RowKit

end Go.Proofs.Ytlgbefmgpmdolaa
