
/-
  Merged texts: SpecW WallK SpecX.
-/
import Derived.Test.YtkbgkkempooplaaWalls
import Derived.Test.YtkbgkkempooplaaNests
import Derived.Test.YtkbgkkempooplaaTurns
import Derived.Test.YtkbgkkempooplaaImplGH
import Derived.Deep.MidRow

/-
  The model's walls. (Walks.)
-/
namespace Go.Proofs.Ytkbgkkempooplaa
open Go.RowKit

/-- two letters beside each other differ -/
def upB (p : List ByteArray) (k i : Nat) : Bool := decide (i < p.length) && decide (byteAt p i (k - 1) ≠ byteAt p i k)
def wlL (x : Wl) : List Int := [x.line, x.first, x.long]
/-- the model's walls between columns, of the lines ahead of one -/
def upL (p : List ByteArray) (k : Nat) : List (List Int) := (linesW 0 (upB p) p.length k).map wlL
def runL (k : Nat) (l : List (Nat × Nat)) : List (List Int) := l.map fun x => [(k : Int), x.1, x.2]

theorem upL_step (p : List ByteArray) (k : Nat) (h : 1 ≤ k) : upL p (k + 1) = upL p k ++ runL k (lineW (upB p k) p.length p.length) := by
  unfold upL runL; rw [linesW_succ h, List.map_append, List.map_map]; rfl
theorem upL_len (p : List ByteArray) (k : Nat) : (upL p k).length ≤ k * p.length := by
  unfold upL; rw [List.length_map]; exact linesW_len _ _ _ _
theorem runL_snoc (k : Nat) (l : List (Nat × Nat)) (s e : Nat) : runL k (l ++ [(s, e)]) = runL k l ++ [[(k : Int), s, e]] := by simp [runL]
theorem runL_len (k : Nat) (l : List (Nat × Nat)) : (runL k l).length = l.length := by simp [runL]

end Go.Proofs.Ytkbgkkempooplaa

/-
  The number of walls: the model's answer and the program's. (Walks, and the mathematics of it.)
-/
namespace Go.Proofs.Ytkbgkkempooplaa
open Go.RowKit

/-! # what a list is read as -/

def planH (p : List ByteArray) : Nat := if planB p = true then p.length else 0
def planW (p : List ByteArray) : Nat := if planB p = true then wideB p else 0
def planR (p : List ByteArray) : Nat := if planB p = true then gridR p else 0
def planG (p : List ByteArray) : Nat → Nat → Nat := if planB p = true then gridG p else fun _ _ => 0

theorem readC_plan (p : List ByteArray) : readC p = planC (planH p) (planW p) (planR p) (planG p) := by
  unfold readC planH planW planR planG
  rw [readOk_eq]
  cases planB p <;> rfl
theorem planH_le (p : List ByteArray) : planH p ≤ 6 := by
  unfold planH
  split
  · rename_i h; exact (planP_of h).grid.h6
  · omega
theorem planW_le (p : List ByteArray) : planW p ≤ 6 := by
  unfold planW
  split
  · rename_i h; exact (planP_of h).grid.w6
  · omega
/-- the walls of a list: none, if it is no plan -/
def wallsP (p : List ByteArray) : List Wl := wallsG (planH p) (planW p) (planG p)
theorem wallsP_len (p : List ByteArray) : (wallsP p).length ≤ 72 := wallsG_len (planH_le p) (planW_le p)
theorem wallsP_no {p : List ByteArray} (h : planB p = false) : wallsP p = [] := by
  unfold wallsP planH planW; rw [h]; rfl
theorem wallsP_yes {p : List ByteArray} (h : planB p = true) : wallsP p = wallsG p.length (wideB p) (gridG p) := by
  unfold wallsP planH planW planG; rw [if_pos h, if_pos h, if_pos h]

/-! # the model's letters and the program's rooms -/

theorem ofNat_ne {a b : Nat} (ha : a < 26) (hb : b < 26) : (UInt8.ofNat (97 + a) ≠ UInt8.ofNat (97 + b)) ↔ a ≠ b := by
  constructor
  · intro h e; exact h (by rw [e])
  · intro h e
    apply h
    have := congrArg UInt8.toNat e
    rw [UInt8.toNat_ofNat', UInt8.toNat_ofNat'] at this
    omega
theorem PlanP.differ {p : List ByteArray} (hp : PlanP p) {i j i' j' : Nat} (hi : i < p.length) (hj : j < wideB p) (hi' : i' < p.length) (hj' : j' < wideB p) :
    (byteAt p i j ≠ byteAt p i' j') ↔ gridG p i j ≠ gridG p i' j' := by
  rw [hp.grid.letter hi hj, hp.grid.letter hi' hj', ofNat_ne (markN_lt p i j) (markN_lt p i' j'), hp.mark i j hi hj, hp.mark i' j' hi' hj']

theorem linesW_wl (a b : Nat) (F : Nat → Nat → Bool) (n : Nat) : ∀ k, (linesW a F n k).map wlL = (linesW b F n k).map wlL
  | 0 => rfl
  | k + 1 => by
    unfold linesW
    split
    · exact linesW_wl a b F n k
    · rw [List.map_append, List.map_append, linesW_wl a b F n k, List.map_map, List.map_map]; rfl

theorem upL_grid {p : List ByteArray} (h : planB p = true) : upL p (wideB p) = (upW p.length (wideB p) (gridG p)).map wlL := by
  have hp := planP_of h
  unfold upL upW
  congr 1
  refine linesW_congr fun l i h1 h2 hi => ?_
  unfold upB upF
  rw [decide_eq_true hi, Bool.true_and, Bool.true_and]
  exact decide_eq_decide.2 (hp.differ hi (by omega) hi h2)

theorem trans_byte {p : List ByteArray} {k i : Nat} (hk : k < wideB p) (hi : i < p.length) : byteAt (transB p) k i = byteAt p i k := byteAt_mat hk hi
theorem trans_len (p : List ByteArray) : (transB p).length = wideB p := matB_len _ _ _
theorem trans_wide {p : List ByteArray} (h : 1 ≤ wideB p) : wideB (transB p) = p.length := matB_wide h
theorem trans_even {p : List ByteArray} (h : 1 ≤ wideB p) : Even (transB p) := matB_even h

theorem upL_trans {p : List ByteArray} (h : planB p = true) : upL (transB p) p.length = (lvW p.length (wideB p) (gridG p)).map wlL := by
  have hp := planP_of h
  unfold upL lvW
  rw [trans_len, linesW_wl 0 1]
  congr 1
  refine linesW_congr fun l i h1 h2 hi => ?_
  unfold upB lvF
  rw [trans_len, decide_eq_true hi, Bool.true_and, Bool.true_and, trans_byte hi (by omega), trans_byte hi h2]
  exact decide_eq_decide.2 (hp.differ (by omega) hi h2 hi)

/-! # how many there are -/

def manyU (p : List ByteArray) : Nat := if planB p = true then (upL p (wideB p)).length else 0
def manyV (p : List ByteArray) : Nat := if planB p = true then (upL (transB p) p.length).length else 0

theorem ways_up {h wd : Nat} {g : Nat → Nat → Nat} : ∀ x ∈ upW h wd g, x.way = 0 := fun _ hx => (linesW_mem hx).1
theorem ways_lv {h wd : Nat} {g : Nat → Nat → Nat} : ∀ x ∈ lvW h wd g, x.way = 1 := fun _ hx => (linesW_mem hx).1
/-- the number of walls of a way -/
def cntW (way : Nat) (L : List Wl) : Nat := (L.filter fun x => x.way == way).length
theorem cntW_snoc (way : Nat) (L : List Wl) (x : Wl) : cntW way (L ++ [x]) = cntW way L + if x.way = way then 1 else 0 := by
  unfold cntW
  rw [List.filter_append, List.length_append]
  by_cases h : x.way = way <;> simp [h]
theorem cntW_le (way : Nat) (L : List Wl) : cntW way L ≤ L.length := List.length_filter_le _ _
theorem cntW_walls (h wd : Nat) (g : Nat → Nat → Nat) : cntW 0 (wallsG h wd g) = (upW h wd g).length ∧ cntW 1 (wallsG h wd g) = (lvW h wd g).length := by
  unfold cntW wallsG
  rw [List.filter_append, List.filter_append]
  have a := @ways_up h wd g
  have b := @ways_lv h wd g
  constructor
  · rw [List.filter_eq_self.2 (fun y hy => by simp [a y hy]), List.filter_eq_nil_iff.2 (fun y hy => by simp [b y hy]), List.append_nil]
  · rw [List.filter_eq_nil_iff.2 (fun y hy => by simp [a y hy]), List.filter_eq_self.2 (fun y hy => by simp [b y hy]), List.nil_append]
theorem many_walls (p : List ByteArray) : cntW 0 (wallsP p) = manyU p ∧ cntW 1 (wallsP p) = manyV p := by
  unfold manyU manyV
  cases h : planB p
  · rw [wallsP_no h]; exact ⟨rfl, rfl⟩
  · rw [wallsP_yes h, if_pos rfl, if_pos rfl, upL_grid h, upL_trans h, List.length_map, List.length_map]
    exact cntW_walls _ _ _

/-! ### the program's walls, read one by one -/

theorem wpList_load_wl {P : Program} {ops : Array Oper} {rest : List Oper} {op : Oper} {a : Act} {w : World} {Q : Exit → Act → World → Prop} (hgd : op.guard = none) (ty : TypeId) (x : Operand) (ho : op.op = .load ty x)
    (b o : Nat) (hx : a.eval x = .pointer (some ⟨b, o, none⟩)) (X : Wl) (d : TypeDesc) (hc : w.rangeAt b o (wlC X).toList)
    (hu : P.underlying ty = some d) (hd : d.isRow = true) (hi : (P.info? ty).map (·.size) = some 4)
    (h : wpList P ops Q rest (a.put op.dst (.agg (wlC X))) w) : wpList P ops Q (op :: rest) a w :=
  wpList_load_mid hgd ty x ho b o hx (wlC X).toList d hc hu hd hi (by simpa using h)

theorem wls_range {w : World} {ao : Option Addr} {L : List Wl} (h : CellsAt w ao (wlsC L)) {i : Nat} (hi : i < L.length) : ∃ b off, ao = some ⟨b, off, none⟩ ∧ w.rangeAt b (off + i * 4) (wlC (L.getD i zeroWl)).toList := by
  obtain ⟨b, off, rfl, _⟩ := h (i * 4 + 0) _ ((wlsC_at L i 0 hi (by omega)).trans rfl)
  refine ⟨b, off, rfl, fun j v hv => ?_⟩
  have hj : j < 4 := by
    have := (List.getElem?_eq_some_iff.1 hv).1
    simpa [wlC] using this
  obtain ⟨b', off', he, hc⟩ := h (i * 4 + j) v (by rw [wlsC_at L i j hi hj, ← hv]; simp)
  simp only [Option.some.injEq, Addr.mk.injEq, and_true] at he
  obtain ⟨rfl, rfl⟩ := he
  rw [show off + i * 4 + j = off + (i * 4 + j) from by omega]
  exact hc

theorem Try.sizeWl : (Try.prog.info? 94).map (·.size) = some 4 := by kernel_rfl

theorem take_snoc {α : Type} (l : List α) (k : Nat) (z : α) (h : k < l.length) : l.take (k + 1) = l.take k ++ [l.getD k z] := take_succ_getD l k z h

end Go.Proofs.Ytkbgkkempooplaa

/-
  The model's walls, all of them in order. (Walks.)
-/
namespace Go.Proofs.Ytkbgkkempooplaa
open Go.RowKit

def wlN (x : Wl) : List Int := [x.way, x.line, x.first, x.long]
theorem upL_three {p : List ByteArray} {k : Nat} : ∀ l ∈ upL p k, l.length = 3 := fun l hl => by
  unfold upL at hl; rw [List.mem_map] at hl; obtain ⟨x, _, rfl⟩ := hl; rfl

/-- the model's walls, as lists of numbers -/
def wallsL (p : List ByteArray) : List (List Int) := (upL p (wideB p)).map (fun l => 0 :: l) ++ (upL (transB p) p.length).map (fun l => 1 :: l)
theorem wallsL_walls {p : List ByteArray} (h : planB p = true) : wallsL p = (wallsP p).map wlN := by
  unfold wallsL
  rw [upL_grid h, upL_trans h, wallsP_yes h]
  unfold wallsG
  rw [List.map_append, List.map_map, List.map_map]
  congr 1
  · refine List.map_congr_left fun x hx => ?_
    simp [wlN, wlL, ways_up x hx]
  · refine List.map_congr_left fun x hx => ?_
    simp [wlN, wlL, ways_lv x hx]

theorem take_map_snoc {f : List Int → List Int} {U : List (List Int)} {i : Nat} (h : i < U.length) : (U.take (i + 1)).map f = (U.take i).map f ++ [f (U.getD i [])] := by
  rw [take_succ_getD U i [] h, List.map_append]; rfl

end Go.Proofs.Ytkbgkkempooplaa
