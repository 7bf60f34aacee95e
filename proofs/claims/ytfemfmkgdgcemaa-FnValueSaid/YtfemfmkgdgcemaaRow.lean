
/-
  Blocks of cells as wholes: what they hold, made, read, written; a plan's cells. (No function of the program is walked here.)
-/
import Derived.Test.YtfemfmkgdgcemaaProg
import Derived.Test.YtfemfmkgdgcemaaPlanM
namespace Go.Proofs.Ytfemfmkgdgcemaa
open Go.RowKit

/-- a block of cells that may be written -/
def HeldB (W : World) (B : Nat) (t : TypeId) (cs : Array Value) : Prop := W.heap[B]? = some (.cells cs t (0, 0))
theorem HeldB.lt {W : World} {B : Nat} {t : TypeId} {cs : Array Value} (h : HeldB W B t cs) : B < W.heap.size := (Array.getElem?_eq_some_iff.1 h).1
theorem HeldB.cell {W : World} {B : Nat} {t : TypeId} {cs : Array Value} (h : HeldB W B t cs) (k : Nat) : W.cell? ⟨B, k, none⟩ = cs[k]? := cell_of_row W B k cs t (0, 0) h
theorem HeldB.frozen {W : World} {B : Nat} {t : TypeId} {cs : Array Value} (h : HeldB W B t cs) (k : Nat) : W.frozen? ⟨B, k, none⟩ = false := frozen_of_row W B k cs t h
theorem HeldB.kept {W W' : World} {B : Nat} {t : TypeId} {cs : Array Value} (h : HeldB W B t cs) {row : Option Nat} (hg : W.grownBy W' row) (hne : some B ≠ row) : HeldB W' B t cs := (hg.block B h.lt hne).trans h
theorem HeldB.below {W W' : World} {B : Nat} {t : TypeId} {cs : Array Value} (h : HeldB W B t cs) (hb : Below W.heap.size W W') : HeldB W' B t cs := (hb.block B h.lt).trans h
theorem HeldB.new (W : World) (t : TypeId) (cs : Array Value) : HeldB (W.alloc (.cells cs t)) W.heap.size t cs := heap_alloc_new W _
theorem HeldB.alloc {W : World} {B : Nat} {t : TypeId} {cs : Array Value} (h : HeldB W B t cs) (o : Obj) : HeldB (W.alloc o) B t cs := h.below (below_alloc W o)
theorem HeldB.other {W : World} {B : Nat} {t : TypeId} {cs : Array Value} (h : HeldB W B t cs) {a : Addr} (hne : B ≠ a.block) (u : Value) : HeldB (W.setCell a u) B t cs := (Below.heap_setCell W a u B hne).trans h
theorem HeldB.set1 {W : World} {B : Nat} {t : TypeId} {v : Value} (h : HeldB W B t #[v]) (u : Value) : HeldB (W.setCell ⟨B, 0, none⟩ u) B t #[u] := one_setCell h
/-- the cells of a plan: rows, columns, rooms, and the room of each cell of six rows of six -/
def planC (h w r : Nat) (g : Nat → Nat → Nat) : Array Value :=
  (.int .i64 (h : Int) :: .int .i64 (w : Int) :: .int .i64 (r : Int) :: (List.range 36).map fun i => .int .i64 ((g (i / 6) (i % 6) : Nat) : Int)).toArray

theorem planC_size (h w r : Nat) (g : Nat → Nat → Nat) : (planC h w r g).size = 39 := by simp [planC]
theorem planC_0 (h w r : Nat) (g : Nat → Nat → Nat) : (planC h w r g)[0]? = some (.int .i64 h) := by simp [planC]
theorem planC_1 (h w r : Nat) (g : Nat → Nat → Nat) : (planC h w r g)[1]? = some (.int .i64 w) := by simp [planC]
theorem planC_2 (h w r : Nat) (g : Nat → Nat → Nat) : (planC h w r g)[2]? = some (.int .i64 r) := by simp [planC]
theorem planC_at (h w r : Nat) (g : Nat → Nat → Nat) (i j : Nat) (hi : i < 6) (hj : j < 6) : (planC h w r g)[3 + i * 6 + j]? = some (.int .i64 (g i j : Nat)) := by
  have h1 : (i * 6 + j) / 6 = i := by omega
  have h2 : (i * 6 + j) % 6 = j := by omega
  have h3 : i * 6 + j < 36 := by omega
  unfold planC
  rw [List.getElem?_toArray, show 3 + i * 6 + j = (i * 6 + j) + 1 + 1 + 1 from by omega, List.getElem?_cons_succ, List.getElem?_cons_succ, List.getElem?_cons_succ, List.getElem?_map, List.getElem?_range h3]
  simp [h1, h2]


/-- the cells of no plan -/
def zeroC : Array Value := planC 0 0 0 (fun _ _ => 0)

theorem HeldB.set {W : World} {B : Nat} {t : TypeId} {cs : Array Value} (h : HeldB W B t cs) (k : Nat) (u : Value) : HeldB (W.setCell ⟨B, k, none⟩ u) B t (cs.setIfInBounds k u) :=
  heap_setCell_same W B k cs t u h
theorem HeldB.eq {W : World} {B : Nat} {t : TypeId} {cs cs' : Array Value} (h : HeldB W B t cs) (he : cs = cs') : HeldB W B t cs' := he ▸ h
theorem HeldB.drew {W : World} {B : Nat} {t : TypeId} {cs : Array Value} (h : HeldB W B t cs) : HeldB W.drew B t cs := h

theorem setRow_alloc (W : World) (t : TypeId) (Z C : Array Value) : (W.alloc (.cells Z t)).setRow W.heap.size C = W.alloc (.cells C t) := by
  unfold World.setRow World.alloc
  congr 1
  apply Array.ext_getElem?
  intro i
  rw [Array.getElem?_modify, Array.getElem?_push, Array.getElem?_push]
  by_cases h : i = W.heap.size
  · subst h; simp
  · rw [if_neg (Ne.symm h), if_neg h, if_neg h]

theorem zero_planC : zeroC = #[.int .i64 0, .int .i64 0, .int .i64 0, .int .i64 0, .int .i64 0, .int .i64 0, .int .i64 0, .int .i64 0, .int .i64 0, .int .i64 0, .int .i64 0, .int .i64 0, .int .i64 0, .int .i64 0, .int .i64 0, .int .i64 0, .int .i64 0, .int .i64 0, .int .i64 0, .int .i64 0, .int .i64 0, .int .i64 0, .int .i64 0, .int .i64 0, .int .i64 0, .int .i64 0, .int .i64 0, .int .i64 0, .int .i64 0, .int .i64 0, .int .i64 0, .int .i64 0, .int .i64 0, .int .i64 0, .int .i64 0, .int .i64 0, .int .i64 0, .int .i64 0, .int .i64 0] := by kernel_rfl

theorem planC_one (h w r : Nat) (g : Nat → Nat → Nat) : (planC h w r g).all (·.oneCell') = true := by
  rw [Array.all_eq_true_iff_forall_mem]
  intro v hv
  unfold planC at hv
  rw [List.mem_toArray, List.mem_cons, List.mem_cons, List.mem_cons, List.mem_map] at hv
  rcases hv with rfl | rfl | rfl | ⟨_, _, rfl⟩ <;> rfl

section
variable {P : Program} {ops : Array Oper} {rest : List Oper} {o : Oper} {a : Act} {w : World} {Q : Exit → Act → World → Prop}

/-- a variable is made with its zero cells -/
theorem wpList_alloc_zero (hgd : o.guard = none) (t : TypeId) (ho : o.op = .alloc t) (Z : Array Value) (hz : ∀ w, (zeroValue t).run P w = .ok (.agg Z) w)
    (h : wpList P ops Q rest (a.put o.dst (.pointer (some ⟨w.heap.size, 0, none⟩))) (w.alloc (.cells Z t))) : wpList P ops Q (o :: rest) a w := by
  refine wpList_plain hgd fun K hK' => ?_
  unfold Oper.wp
  simp [execOp, ho, Instr.alloc, hz, newVar, newRow, Result.andThen, Value.cells]
  exact hK' _ _ h

/-- an aggregate built out of parts, by its cells -/
theorem wpList_build_as (hg : o.guard = none) (t : TypeId) (parts : Array (Nat × Operand)) (ho : o.op = .build t parts) (C : Array Value)
    (hf : P.built t (parts.map fun (i, x) => (i, a.eval x)).toList = some C) (h : wpList P ops Q rest (a.put o.dst (.agg C)) w) : wpList P ops Q (o :: rest) a w := by
  refine wpList_build hg t parts ho (by rw [hf]; rfl) ?_
  rw [hf]
  exact h

/-- a whole block is read, in an operation that a guard lets by -/
theorem wpList_load_row_guard (hw : Region.wanted o (yielded ops a.tmps) = true) (ty : TypeId) (x : Operand) (ho : o.op = .load ty x)
    (g : Nat) (hx : a.eval x = .pointer (some ⟨g, 0, none⟩)) (t : TypeId) (cs : Array Value) (fr : Nat × Nat) (d : TypeDesc) (hg : w.heap[g]? = some (.cells cs t fr))
    (hu : P.underlying ty = some d) (hd : (match d with | .struct _ | .array _ _ => true | _ => false) = true) (hi : (P.info? ty).map (·.size) = some cs.size)
    (h : wpList P ops Q rest (a.put o.dst (.agg cs)) w) : wpList P ops Q (o :: rest) a w :=
  wpList_step fun K hK => by
    rw [if_pos hw]
    exact wp_load_row ty x ho g hx t cs fr d hg hu hd hi (hK _ _ h)

/-- a whole block is written -/
theorem HeldB.setRow {W : World} {B : Nat} {t : TypeId} {cs : Array Value} (h : HeldB W B t cs) (cs' : Array Value) : HeldB (W.setRow B cs') B t cs' := setRow_heap W B cs cs' t (0, 0) h
theorem HeldB.otherRow {W : World} {B B' : Nat} {t : TypeId} {cs : Array Value} (h : HeldB W B t cs) (hne : B ≠ B') (cs' : Array Value) : HeldB (W.setRow B' cs') B t cs := (setRow_other W B' B cs' hne).trans h
theorem below_setRowB {B : Nat} {W w : World} (h : Below B W w) {g : Nat} (hg : B ≤ g) (cs : Array Value) : Below B W (w.setRow g cs) :=
  h.trans ⟨rfl, rfl, rfl, by simp, fun k hk => setRow_other w g k cs (by omega)⟩

/-- a whole block that has just been made is written -/
theorem wpList_store_new (hgd : o.guard = none) (ty : TypeId) (x y : Operand) (ho : o.op = .store ty x y) (W : World) (Z C : Array Value) (hw : w = W.alloc (.cells Z ty))
    (hx : a.eval x = .pointer (some ⟨W.heap.size, 0, none⟩)) (hy : a.eval y = .agg C) (hi : (P.info? ty).map (·.size) = some C.size) (hold : Z.size = C.size) (h1 : C.all (·.oneCell') = true)
    (h : wpList P ops Q rest (a.put o.dst undef) (W.alloc (.cells C ty))) : wpList P ops Q (o :: rest) a w := by
  subst hw
  refine wpList_store_row hgd ty x y ho W.heap.size C hx hy ty Z (HeldB.new W ty Z) hi hold h1 ?_
  rw [setRow_alloc]
  exact h
end

end Go.Proofs.Ytfemfmkgdgcemaa
