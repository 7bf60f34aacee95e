
/-
  The rooms at a side of a plan: the program's answer. (Walks.)
-/
import Derived.Test.YtkbgkkempooplaaNums
import Derived.Test.YtkbgkkempooplaaOutl
import Derived.Test.YtkbgkkempooplaaCut
import Derived.OrdersHeld
import Derived.Maps.RangeWalk
namespace Go.Proofs.Ytkbgkkempooplaa
open Go.RowKit

/-- the cells of a box of whole numbers -/
def bxI (a b c d : Int) : Array Value := #[.int .i64 a, .int .i64 b, .int .i64 c, .int .i64 d]
theorem bx_one (a b c d : Int) : (bxI a b c d).all (·.oneCell') = true := by
  rw [Array.all_eq_true_iff_forall_mem]
  intro v hv
  unfold bxI at hv
  simp only [List.mem_toArray, List.mem_cons, List.not_mem_nil, or_false] at hv
  rcases hv with rfl | rfl | rfl | rfl <;> rfl
theorem bx_size (a b c d : Int) : (Try.prog.info? 115).map (·.size) = some (bxI a b c d).size := by rw [show (bxI a b c d).size = 4 from rfl]; kernel_rfl
theorem zero_bx : (#[.int .i64 0, .int .i64 0, .int .i64 0, .int .i64 0] : Array Value) = bxI 0 0 0 0 := rfl

/-- the cells at a side, as a box -/
def edgeX (h wd : Nat) (s : Int) : Array Value :=
  if s = 0 then bxI 0 0 1 wd else if s = 1 then bxI 0 ((wd : Int) - 1) h 1 else if s = 2 then bxI ((h : Int) - 1) 0 1 wd else if s = 3 then bxI 0 0 h 1 else bxI 0 0 0 0
def isSide (s : Int) : Bool := decide (s = 0) || decide (s = 1) || decide (s = 2) || decide (s = 3)

theorem results_box2 {fn : Func} {p u : Tmp} (h : fn.results = #[.cell p 115, .tmp u]) {tmps : Array Value} {w : World} {B : Nat} {C : Array Value} {v : Value}
    (hp : tmps.getD p undef = .pointer (some ⟨B, 0, none⟩)) (hB : HeldB w B 115 C) (hs : C.size = 4) (hv : tmps.getD u undef = v) :
    (results fn tmps).run Try.prog w = .ok (.tuple #[.agg C, v]) w := by
  rw [results_cell_tmp h, hp, hv]
  have hr := run_loadVar_row (P := Try.prog) w B 115 115 C (0, 0) _ hB Try.underlying115 rfl (by rw [hs]; kernel_rfl)
  simp [asAddr, hr, Result.andThen]

/-- the cells of some rows and columns, row by row -/
def cellsR (g : Nat → Nat → Nat) (r0 c0 wi : Nat) (i : Nat) : List Int := (List.range i).flatMap fun k => (List.range wi).map fun j => ((g (r0 + k) (c0 + j) : Nat) : Int)
theorem cellsR_succ (g : Nat → Nat → Nat) (r0 c0 wi i : Nat) : cellsR g r0 c0 wi (i + 1) = cellsR g r0 c0 wi i ++ (List.range wi).map fun j => ((g (r0 + i) (c0 + j) : Nat) : Int) := by
  unfold cellsR; rw [List.range_succ, List.flatMap_append, List.flatMap_singleton]
theorem cellsR_len (g : Nat → Nat → Nat) (r0 c0 wi : Nat) : ∀ i, (cellsR g r0 c0 wi i).length = i * wi
  | 0 => by simp [cellsR]
  | i + 1 => by rw [cellsR_succ, List.length_append, cellsR_len g r0 c0 wi i, Nat.succ_mul]; simp

/-- the box at a side -/
def edgeN (h wd : Nat) (s : Int) : Nat × Nat × Nat × Nat :=
  if s = 0 then (0, 0, 1, wd) else if s = 1 then (0, wd - 1, h, 1) else if s = 2 then (h - 1, 0, 1, wd) else (0, 0, h, 1)
theorem edgeX_nat {h wd : Nat} {s : Int} (h1 : 1 ≤ h) (w1 : 1 ≤ wd) (hs : isSide s = true) : edgeX h wd s = bxI (edgeN h wd s).1 (edgeN h wd s).2.1 (edgeN h wd s).2.2.1 (edgeN h wd s).2.2.2 := by
  unfold isSide at hs
  simp only [Bool.or_eq_true, decide_eq_true_eq] at hs
  have e1 : ((wd - 1 : Nat) : Int) = (wd : Int) - 1 := by omega
  have e2 : ((h - 1 : Nat) : Int) = (h : Int) - 1 := by omega
  rcases hs with ((rfl | rfl) | rfl) | rfl
  · rfl
  · show bxI 0 ((wd : Int) - 1) h 1 = bxI 0 ((wd - 1 : Nat) : Int) h 1; rw [e1]
  · show bxI ((h : Int) - 1) 0 1 wd = bxI ((h - 1 : Nat) : Int) 0 1 wd; rw [e2]
  · rfl
theorem edgeN_in {h wd : Nat} {s : Int} (h1 : 1 ≤ h) (w1 : 1 ≤ wd) : (edgeN h wd s).1 + (edgeN h wd s).2.2.1 ≤ h ∧ (edgeN h wd s).2.1 + (edgeN h wd s).2.2.2 ≤ wd ∧ 1 ≤ (edgeN h wd s).2.2.1 ∧ 1 ≤ (edgeN h wd s).2.2.2 := by
  unfold edgeN
  split
  · simp only; omega
  · split
    · simp only; omega
    · split
      · simp only; omega
      · simp only; omega
/-- the rooms at a side of a plan, one for each cell -/
def edgeL (p : List ByteArray) (s : Int) : List Int := cellsR (gridG p) (edgeN p.length (wideB p) s).1 (edgeN p.length (wideB p) s).2.1 (edgeN p.length (wideB p) s).2.2.2 (edgeN p.length (wideB p) s).2.2.1
def outOk (p : List ByteArray) (s : Int) : Bool := planB p && isSide s
def outL (p : List ByteArray) (s : Int) : List Int := if outOk p s = true then compactL (edgeL p s) else []

theorem planC_cells {h wd r : Nat} {g : Nat → Nat → Nat} {row c0 wi : Nat} (hr : row < 6) (hc : c0 + wi ≤ 6) : ∀ j v, (((List.range wi).map fun j => ((g row (c0 + j) : Nat) : Int)).map (Value.int .i64))[j]? = some v → (planC h wd r g)[3 + row * 6 + c0 + j]? = some v := fun j v hv => by
  have hj : j < wi := by
    have := (List.getElem?_eq_some_iff.1 hv).1
    simpa using this
  rw [show 3 + row * 6 + c0 + j = 3 + row * 6 + (c0 + j) from by omega, planC_at h wd r g row (c0 + j) hr (by omega), ← hv]
  simp [hj]

theorem yieldsIf_loadC {P : Program} {ops : Array Oper} {S : World → Prop} {op : Oper} {a : Act} (hw : Region.wanted op (yielded ops a.tmps) = true) (ty : TypeId) (x : Operand) (ho : op.op = .load ty x) (v : Value)
    (hr : ∀ w, S w → (Instr.loadAt ty (a.eval x)).run P w = .ok v w) : YieldsIf P ops S op v a :=
  .inl ⟨hw, fun w hw' => by
    unfold execOp
    simp only [ho, Sem.run_bind, Sem.run_pure, Result.andThen_ok, hr w hw']⟩
theorem slice_six (w : World) (B o c e : Nat) (h1 : c ≤ e) (h2 : e ≤ 6) (h3 : c < 6) : (Instr.sliceAt 57 (.pointer (some ⟨B, o, none⟩)) (some (.int .i64 (c : Int))) (some (.int .i64 (e : Int))) none).run Try.prog w = .ok (.slice (some ⟨B, o + c, none⟩) (e - c) (6 - c)) w := by
  have ha : Try.prog.arrayLen 57 = 6 := by kernel_rfl
  have ht : Try.prog.underlying 57 = some (.array (Try.prog.arrayLen 57) (Try.prog.elem 57)) := by kernel_rfl
  have hs : (sizeOf (Try.prog.elem 57)).run Try.prog w = .ok 1 w := by kernel_rfl
  rw [run_sliceAt_array_lh w _ _ ht _ _ _ _ (by omega) (by omega) (by rw [ha]; omega), hs, ha]
  have h4 : ¬ 6 = c := by omega
  simp [Result.andThen, slicedAt, h4, Addr.add]
theorem wp_appendK {P : Program} (w : World) {o : Oper} {a : Act} {K : Act → World → Prop} {Q : Exit → Act → World → Prop} (s x : Operand) (t : TypeId) (ho : o.op = .call { callee := .builtin .append, args := #[s, x], argTypes := #[t, t] })
    (vs vx v' : Value) (w' : World) (hs : a.eval s = vs) (hx : a.eval x = vx) (hrun : (Builtin.append_ #[t, t] o.type #[vs, vx]).run P w = .ok v' w') (h : K (a.put o.dst v') w') : o.wp P a w K Q := by
  unfold Oper.wp
  simp [execOp, ho, resolve, invoke, builtin, hs, hx, hrun, Result.andThen]
  exact h
theorem edgeX_parts (h wd : Nat) (s : Int) : (Try.prog.info? 115).map (·.size) = some (edgeX h wd s).size ∧ (edgeX h wd s).size = 4 ∧ (edgeX h wd s).all (·.oneCell') = true := by
  unfold edgeX
  split
  · exact ⟨bx_size _ _ _ _, rfl, bx_one _ _ _ _⟩
  · split
    · exact ⟨bx_size _ _ _ _, rfl, bx_one _ _ _ _⟩
    · split
      · exact ⟨bx_size _ _ _ _, rfl, bx_one _ _ _ _⟩
      · split
        · exact ⟨bx_size _ _ _ _, rfl, bx_one _ _ _ _⟩
        · exact ⟨bx_size _ _ _ _, rfl, bx_one _ _ _ _⟩

end Go.Proofs.Ytkbgkkempooplaa
