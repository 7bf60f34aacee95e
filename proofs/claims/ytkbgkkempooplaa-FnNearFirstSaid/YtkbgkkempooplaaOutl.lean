
/-
  Merged texts: SideA SideB SideC EndS EndT.
-/
import Derived.Test.YtkbgkkempooplaaSpecWX
import Derived.Test.YtkbgkkempooplaaLaws
import Derived.Test.YtkbgkkempooplaaNeck
import Derived.Lib.SliceRun
import Derived.BigQuiet

/-
  Lists without repeats beside each other: the mathematics, and the library's function that makes them. (Walk.)
-/
namespace Go.Proofs.Ytkbgkkempooplaa
open Go.RowKit

/-- a number put behind a list that does not end with it -/
def putL (l : List Int) (x : Int) : List Int := if l.getLast? = some x then l else l ++ [x]
/-- a list without repeats beside each other -/
def compactL (xs : List Int) : List Int := xs.foldl putL []
theorem compactL_snoc (xs : List Int) (x : Int) : compactL (xs ++ [x]) = putL (compactL xs) x := by simp [compactL]
theorem putL_last (l : List Int) (x : Int) : (putL l x).getLast? = some x := by
  unfold putL; split
  · assumption
  · simp
theorem compactL_last (xs : List Int) : (compactL xs).getLast? = xs.getLast? := by
  induction xs using snoc_ind with
  | h0 => rfl
  | h1 l c _ => rw [compactL_snoc, putL_last]; simp
theorem compactL_len (xs : List Int) : (compactL xs).length ≤ xs.length := by
  induction xs using snoc_ind with
  | h0 => exact Nat.le_refl _
  | h1 l c ih =>
    rw [compactL_snoc, List.length_append]
    unfold putL
    split
    · simp only [List.length_singleton]; omega
    · rw [List.length_append]; simp only [List.length_singleton]; omega
theorem take_last {xs : List Int} {k : Nat} (h : k < xs.length) : (xs.take (k + 1)).getLast? = some (xs.getD k 0) := by
  rw [take_succ_getD xs k 0 h]; simp
/-- one more number: it is put, or left out -/
theorem compactL_take {xs : List Int} {k : Nat} (h : k + 1 < xs.length) :
    compactL (xs.take (k + 2)) = if xs.getD k 0 = xs.getD (k + 1) 0 then compactL (xs.take (k + 1)) else compactL (xs.take (k + 1)) ++ [xs.getD (k + 1) 0] := by
  rw [take_succ_getD xs (k + 1) 0 h, compactL_snoc]
  unfold putL
  rw [compactL_last, take_last (by omega)]
  simp only [Option.some.injEq]

/-- a block of the call's own, whose first cells are these numbers -/
def OwnNums (w : World) (g cap : Nat) (ys : List Int) : Prop := ∃ cur : Array Value, HeldB w g 3 cur ∧ cur.size = cap ∧ ys.length ≤ cap ∧ cap ≤ maxLen ∧ cur.toList.take ys.length = ys.map (Value.int .i64)

theorem OwnNums.at_ {cur : Array Value} {ys : List Int} (ht : cur.toList.take ys.length = ys.map (Value.int .i64)) {i : Nat} (hi : i < ys.length) : cur[i]? = some (.int .i64 (ys.getD i 0)) := by
  have h1 : (cur.toList.take ys.length)[i]? = (ys.map (Value.int .i64))[i]? := by rw [ht]
  rw [List.getElem?_take_of_lt hi] at h1
  rw [← Array.getElem?_toList, h1]
  simp [hi]
theorem OwnNums.cell {w : World} {g cap : Nat} {ys : List Int} (h : OwnNums w g cap ys) {i : Nat} (hi : i < ys.length) : w.cell? ⟨g, i, none⟩ = some (.int .i64 (ys.getD i 0)) := by
  obtain ⟨cur, hh, _, _, _, ht⟩ := h
  rw [hh.cell i]; exact OwnNums.at_ ht hi
theorem OwnNums.frozen {w : World} {g cap : Nat} {ys : List Int} (h : OwnNums w g cap ys) (i : Nat) : w.frozen? ⟨g, i, none⟩ = false := by
  obtain ⟨cur, hh, _⟩ := h; exact hh.frozen i
theorem OwnNums.set {w : World} {g cap : Nat} {ys : List Int} (h : OwnNums w g cap ys) {i : Nat} (_hi : i < ys.length) (v : Int) : OwnNums (w.setCell ⟨g, i, none⟩ (.int .i64 v)) g cap (ys.set i v) := by
  obtain ⟨cur, hh, h1, h2, h3, ht⟩ := h
  refine ⟨_, hh.set i (.int .i64 v), by simp [h1], by rw [List.length_set]; exact h2, h3, ?_⟩
  rw [List.length_set, Array.toList_setIfInBounds, List.take_set, ht, List.map_set]
theorem OwnNums.drewN {w : World} {g cap : Nat} {ys : List Int} (h : OwnNums w g cap ys) (n : Nat) : OwnNums (w.drewN n) g cap ys := h
theorem OwnNums.lt {w : World} {g cap : Nat} {ys : List Int} (h : OwnNums w g cap ys) : g < w.heap.size := by
  obtain ⟨cur, hh, _⟩ := h; exact hh.lt
theorem OwnNums.owns {w : World} {g cap base : Nat} {ys : List Int} (h : OwnNums w g cap ys) (hg : base ≤ g) (k : Nat) (hk : k ≤ ys.length) : w.ownsRow base 3 1 (.slice (some ⟨g, 0, none⟩) k cap) k ((ys.take k).map (Value.int .i64)) := by
  obtain ⟨cur, hh, h1, h2, h3, ht⟩ := h
  refine ⟨by rw [List.length_map, List.length_take]; omega, .inr ⟨g, cap, cur, rfl, hg, hh, by omega, h3, by omega, ?_⟩⟩
  rw [Nat.mul_one, List.map_take, ← ht, List.take_take, Nat.min_eq_left hk]
theorem ownNums_of {w : World} {base : Nat} {ao : Option Addr} {n cap : Nat} {ys : List Int} (h : w.ownsRow base 3 1 (.slice ao n cap) n (ys.map (Value.int .i64))) (hn : 0 < n) : ∃ g, ao = some ⟨g, 0, none⟩ ∧ base ≤ g ∧ ys.length = n ∧ OwnNums w g cap ys := by
  have hl := ownsRow_len h
  rw [List.length_map] at hl
  rcases h.2 with ⟨_, h0⟩ | ⟨g, cap', cur, hv, hb, hg, h1, h2, h3, h4⟩
  · omega
  · simp only [Value.slice.injEq] at hv
    obtain ⟨rfl, _, rfl⟩ := hv
    refine ⟨g, rfl, hb, hl, cur, hg, by omega, by omega, h2, ?_⟩
    rw [Nat.mul_one] at h4
    rw [hl]; exact h4

/-- cells of one block written in a row: the numbers ahead of them stay -/
theorem OwnNums.cleared {g cap : Nat} : ∀ (n k : Nat) (ys : List Int) (w : World), OwnNums w g cap ys → k + n ≤ ys.length → ∃ zs, OwnNums (w.setCells g k (List.replicate n (.int .i64 0))) g cap zs ∧ zs.length = ys.length ∧ zs.take k = ys.take k
  | 0, k, ys, w, h, _ => ⟨ys, h, rfl, rfl⟩
  | n + 1, k, ys, w, h, hk => by
    obtain ⟨zs, h1, h2, h3⟩ := OwnNums.cleared n (k + 1) (ys.set k 0) (w.setCell ⟨g, k, none⟩ (.int .i64 0)) (h.set (by omega) 0) (by rw [List.length_set]; omega)
    refine ⟨zs, h1, by rw [h2, List.length_set], ?_⟩
    have h4 : (zs.take (k + 1)).take k = ((ys.set k 0).take (k + 1)).take k := by rw [h3]
    rw [List.take_take, List.take_take, Nat.min_eq_left (by omega)] at h4
    rw [h4, List.take_set_of_le (Nat.le_refl _)]
theorem setCells_below {B : Nat} {W : World} {g : Nat} (hg : B ≤ g) : ∀ (vs : List Value) (k : Nat) (w : World), Below B W w → Below B W (w.setCells g k vs)
  | [], _, _, h => h
  | v :: vs, k, w, h => setCells_below hg vs (k + 1) _ (h.setCell (by exact hg) v)
/-- all but one block is as it was -/
def OnlyB (w w' : World) (g : Nat) : Prop := w.grownBy w' (some g)
theorem setCell_only (w : World) (g k : Nat) (v : Value) : w.grownBy (w.setCell ⟨g, k, none⟩ v) (some g) := by
  refine ⟨rfl, rfl, rfl, by simp, fun b hb hne => Below.heap_setCell w ⟨g, k, none⟩ v b (fun e => hne (by rw [e]))⟩
theorem setCells_only (g : Nat) : ∀ (vs : List Value) (k : Nat) (w0 w : World), w0.grownBy w (some g) → w0.grownBy (w.setCells g k vs) (some g)
  | [], _, _, _, h => h
  | v :: vs, k, w0, w, h => setCells_only g vs (k + 1) w0 _ (grownBy_trans h (setCell_only w g k v))
theorem drewN_only (w : World) (n g : Nat) : w.grownBy (w.drewN n) (some g) := ⟨rfl, rfl, rfl, Nat.le_refl _, fun _ _ _ => rfl⟩

theorem getD_append_drop {c xs : List Int} {i : Nat} (h : c.length ≤ i) : (c ++ xs.drop c.length).getD i 0 = xs.getD i 0 := by
  rw [List.getD_eq_getElem?_getD, List.getD_eq_getElem?_getD, List.getElem?_append_right h, List.getElem?_drop, show c.length + (i - c.length) = i from by omega]
theorem set_append_drop {c xs : List Int} (h : c.length < xs.length) (v : Int) : (c ++ xs.drop c.length).set c.length v = (c ++ [v]) ++ xs.drop (c ++ [v]).length := by
  rw [List.set_append_right _ _ (Nat.le_refl _), Nat.sub_self, List.drop_eq_getElem_cons h, List.set_cons_zero, List.append_assoc, List.length_append]
  rfl
theorem len_append_drop {c xs : List Int} (h : c.length ≤ xs.length) : (c ++ xs.drop c.length).length = xs.length := by
  rw [List.length_append, List.length_drop]; omega

end Go.Proofs.Ytkbgkkempooplaa

/-
  The rooms of both sides of a wall: the program's answer. (Walks.)
-/
namespace Go.Proofs.Ytkbgkkempooplaa
open Go.RowKit

/-- the rooms on both sides, cell by cell -/
def cellsA (g : Nat → Nat → Nat) (X : Wl) (t : Nat) : List Int := (List.range t).map fun s => ((sideA g X.way X.line (X.first + s) : Nat) : Int)
def cellsB' (g : Nat → Nat → Nat) (X : Wl) (t : Nat) : List Int := (List.range t).map fun s => ((sideB g X.way X.line (X.first + s) : Nat) : Int)
theorem cellsA_succ (g : Nat → Nat → Nat) (X : Wl) (t : Nat) : cellsA g X (t + 1) = cellsA g X t ++ [((sideA g X.way X.line (X.first + t) : Nat) : Int)] := by simp [cellsA, List.range_succ]
theorem cellsB_succ (g : Nat → Nat → Nat) (X : Wl) (t : Nat) : cellsB' g X (t + 1) = cellsB' g X t ++ [((sideB g X.way X.line (X.first + t) : Nat) : Int)] := by simp [cellsB', List.range_succ]
theorem cellsA_len (g : Nat → Nat → Nat) (X : Wl) (t : Nat) : (cellsA g X t).length = t := by simp [cellsA]
theorem cellsB_len (g : Nat → Nat → Nat) (X : Wl) (t : Nat) : (cellsB' g X t).length = t := by simp [cellsB']

/-- two slices of numbers, each of the call's own, apart -/
def TwoRet (base : Nat) (S T : List Int) (e : Ending) (w' : World) : Prop :=
  ∃ r0 q0 r1 q1, e = .returned (.tuple #[.slice r0 S.length q0, .slice r1 T.length q1]) ∧ w'.ownsRow base 3 1 (.slice r0 S.length q0) S.length (S.map (Value.int .i64)) ∧
    w'.ownsRow base 3 1 (.slice r1 T.length q1) T.length (T.map (Value.int .i64)) ∧ Apart r0 r1

end Go.Proofs.Ytkbgkkempooplaa

/-
  The rooms of both sides of a wall told by its number: the program's answer. (Walk.)
-/
namespace Go.Proofs.Ytkbgkkempooplaa
open Go.RowKit

/-- a number that is one of a wall -/
def wallIn (p : List ByteArray) (n : Int) : Bool := decide (0 ≤ n) && decide (n < ((wallsP p).length : Nat))
def sideOrA (p : List ByteArray) (n : Int) : List Int := if wallIn p n = true then compactL (cellsA (planG p) ((wallsP p).getD n.toNat zeroWl) ((wallsP p).getD n.toNat zeroWl).long) else []
def sideOrB (p : List ByteArray) (n : Int) : List Int := if wallIn p n = true then compactL (cellsB' (planG p) ((wallsP p).getD n.toNat zeroWl) ((wallsP p).getD n.toNat zeroWl).long) else []

/-- two slices of numbers and a word, handed back -/
def TwoNums (base : Nat) (S T : List Int) (b : Bool) (e : Ending) (w' : World) : Prop :=
  ∃ r0 q0 r1 q1, e = .returned (.tuple #[.slice r0 S.length q0, .slice r1 T.length q1, .bool b]) ∧ w'.ownsRow base 3 1 (.slice r0 S.length q0) S.length (S.map (Value.int .i64)) ∧
    w'.ownsRow base 3 1 (.slice r1 T.length q1) T.length (T.map (Value.int .i64)) ∧ Apart r0 r1

theorem wallsP_mem {p : List ByteArray} {X : Wl} (h : X ∈ wallsP p) : 1 ≤ X.line ∧ X.line < 6 ∧ X.first + X.long ≤ 6 ∧ X.way < 2 := by
  obtain ⟨a, b, c, d, e, _⟩ := wallsG_mem h
  have h1 : acrossN (planH p) (planW p) X.way ≤ 6 := by unfold acrossN; have := planH_le p; have := planW_le p; split <;> omega
  have h2 : alongN (planH p) (planW p) X.way ≤ 6 := by unfold alongN; have := planH_le p; have := planW_le p; split <;> omega
  exact ⟨b, by omega, by omega, a⟩

theorem wpOp_want {P : Program} {ops : Array Oper} {Q : Exit → Act → World → Prop} {i : Nat} {o : Oper} {K : Act → World → Prop} {a : Act} {w : World} (hi : ops[i]? = some o) (hw : Region.wanted o (yielded ops a.tmps) = true) (h : o.wp P a w K Q) : wpOp P ops Q i K a w := by
  unfold wpOp
  simp only [hi, hw, if_true]
  exact .inl h
theorem wp_load_wl {P : Program} {op : Oper} {a : Act} {w : World} {K : Act → World → Prop} {Q : Exit → Act → World → Prop} (ty : TypeId) (x : Operand) (ho : op.op = .load ty x)
    (b o : Nat) (hx : a.eval x = .pointer (some ⟨b, o, none⟩)) (X : Wl) (d : TypeDesc) (hc : w.rangeAt b o (wlC X).toList)
    (hu : P.underlying ty = some d) (hd : d.isRow = true) (hi : (P.info? ty).map (·.size) = some 4)
    (h : K (a.put op.dst (.agg (wlC X))) w) : op.wp P a w K Q :=
  wp_load_mid ty x ho b o hx (wlC X).toList d hc hu hd hi (by simpa using h)

end Go.Proofs.Ytkbgkkempooplaa

/-
  The model counts ends of walls at the outline. (Walks.)
-/
namespace Go.Proofs.Ytkbgkkempooplaa
open Go.RowKit

/-- how many ends a wall has at the first and the last of m places -/
def endOne (m : Nat) (l : List Int) : Nat := (if l.getD 1 0 = 0 then 1 else 0) + (if l.getD 1 0 + l.getD 2 0 = (m : Int) then 1 else 0)
def endsL (m : Nat) (U : List (List Int)) : Nat := (U.map (endOne m)).sum

theorem endsL_succ (m : Nat) (U : List (List Int)) (i : Nat) (h : i < U.length) : endsL m (U.take (i + 1)) = endsL m (U.take i) + endOne m (U.getD i []) := by
  unfold endsL; rw [take_succ_getD U i [] h, List.map_append, List.sum_append]; simp
theorem endsL_le (m : Nat) (U : List (List Int)) : endsL m U ≤ 2 * U.length := by
  unfold endsL
  induction U with
  | nil => simp
  | cons l U ih => rw [List.map_cons, List.sum_cons, List.length_cons]; have : endOne m l ≤ 2 := by unfold endOne; split <;> split <;> omega
                   omega

end Go.Proofs.Ytkbgkkempooplaa

/-
  Ends at the outline: the model's answer. (Walks.)
-/
namespace Go.Proofs.Ytkbgkkempooplaa
open Go.RowKit

/-- how many ends of walls lie at the outline of a plan -/
def outN (p : List ByteArray) : Nat := if planB p then endsL p.length (upL p (wideB p)) + endsL (wideB p) (upL (transB p) p.length) else 0

theorem upL_bound (p : List ByteArray) (k : Nat) (h6 : p.length ≤ 6) : ∀ l ∈ upL p k, 0 ≤ l.getD 1 0 ∧ l.getD 1 0 ≤ 6 ∧ 0 ≤ l.getD 2 0 ∧ l.getD 2 0 ≤ 6 := fun l hl => by
  unfold upL at hl
  rw [List.mem_map] at hl
  obtain ⟨x, hx, rfl⟩ := hl
  obtain ⟨_, _, _, h4, _, _, h7⟩ := linesW_mem hx
  have h8 := runFrom_le (upB p x.line) p.length x.first
  simp only [wlL, List.getD_cons_succ, List.getD_cons_zero]
  omega

end Go.Proofs.Ytkbgkkempooplaa
