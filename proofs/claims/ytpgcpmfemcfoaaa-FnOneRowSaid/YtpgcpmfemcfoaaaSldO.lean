/-
  Merged texts: RndB Sld SldM.
-/
import Derived.Test.YtpgcpmfemcfoaaaRndO
import Derived.Test.YtpgcpmfemcfoaaaImplDEO
import Derived.Test.YtpgcpmfemcfoaaaFilVO
import Derived.Test.YtpgcpmfemcfoaaaFilPO
import Derived.Test.YtpgcpmfemcfoaaaOrdEFO
import Derived.Sort.QuietIn

/-
  Single operations of a region that draws its order, within a round: loads of whole rows.
-/
namespace Go.Proofs.Ytpgcpmfemcfoaaa
open Go.RowKit Go.Shelf

theorem fold_one (t : Array Value) (k : Tmp) (v : Value) : ((#[k] : Array Tmp).zip #[v]).foldl (fun t (p, v) => t.setIfInBounds p v) t = t.setIfInBounds k v := by simp
theorem wpOpIn_loadR {F : Fence} {n : Nat} {P : Program} {ops : Array Oper} {Q : Exit → Act → World → Prop} {i : Nat} {o : Oper} {K : Act → World → Prop} {a : Act} {w : World} (ho : ops[i]? = some o) (hw : Region.wanted o (yielded ops a.tmps) = true) (ty : TypeId) (x : Operand) (hop : o.op = .load ty x)
    (g : Nat) (hx : a.eval x = .pointer (some ⟨g, 0, none⟩)) (t : TypeId) (cs : Array Value) (fr : Nat × Nat) (d : TypeDesc) (hg : w.heap[g]? = some (.cells cs t fr))
    (hu : P.underlying ty = some d) (hd : (match d with | .struct _ | .array _ _ => true | _ => false) = true) (hi : (P.info? ty).map (·.size) = some cs.size)
    (h : K (a.put o.dst (.agg cs)) w) : wpOpIn F n P ops Q i K a w := by
  unfold wpOpIn
  rw [ho]
  simp only [hw, if_true]
  unfold Oper.wpIn
  refine ⟨?_, ?_⟩
  · simp [Oper.about, hop]
  · rw [Oper.semAt_plain F _ _ (by rw [hop]; intro c hc'; cases hc')]
    have hr := run_loadVar_row (P := P) w g t ty cs fr d hg hu hd hi
    unfold execOp
    simp only [hop, hx, Instr.loadAt, Instr.sureAddr, Sem.run_bind, Sem.run_pure, Result.andThen_ok, hr]
    exact h
end Go.Proofs.Ytpgcpmfemcfoaaa

/-
  The program's OrderSlide: all plans asked. (Walks inside a fence.)
-/
namespace Go.Proofs.Ytpgcpmfemcfoaaa
open Go.RowKit Go.Shelf

attribute [local go_sem] Oper.semAt_some

/-- a plan of the list, as the program has it -/
theorem Leaf.read {h wd : Nat} {y : PZ} (L : Leaf h wd y) (hy : y ∈ allZ h wd) : planZ h wd y.1 y.2 = planC (planH (txtZ h wd y.2)) (planW (txtZ h wd y.2)) (planR (txtZ h wd y.2)) (planG (txtZ h wd y.2)) := by
  rw [L.cells hy]
  unfold planH planW planR planG
  rw [if_pos L.plan, if_pos L.plan, if_pos L.plan, if_pos L.plan]
/-- what the program tells of such a plan -/
structure Tells (C : Array Value) (p : List ByteArray) : Prop where
  plain : ∀ w, Calls Try.prog 33 #[.agg C] w fun e w' => e = .returned (.bool (plainB p)) ∧ Below w.heap.size w w'
  order : plainB p = true → ∀ w, Calls Try.prog 35 #[.agg C] w fun e w' => e = .returned (.agg (ordP p)) ∧ Below w.heap.size w w'
theorem Leaf.tells {h wd : Nat} {y : PZ} (L : Leaf h wd y) (hy : y ∈ allZ h wd) : Tells (planZ h wd y.1 y.2) (txtZ h wd y.2) := by
  have hp := L.plan
  refine ⟨fun w => ?_, fun hpl w => ?_⟩
  · have := isPlain_any (planH (txtZ h wd y.2)) (planW (txtZ h wd y.2)) (planR (txtZ h wd y.2)) (planG (txtZ h wd y.2)) w (planH_le _) (planW_le _)
    rw [meet_cross, ← L.read hy] at this
    unfold plainB
    rw [hp, Bool.true_and]
    exact this
  · have G := (planP_of hp)
    have := order_any (txtZ h wd y.2).length (wideB (txtZ h wd y.2)) (gridR (txtZ h wd y.2)) (gridG (txtZ h wd y.2)) w G.grid.h6 G.grid.w6 G.few (fun i j hi hj => gridG_lt hi hj)
    rw [← L.cells hy, L.cells hy, ← ordP_yes hpl, ← L.cells hy] at this
    exact this
end Go.Proofs.Ytpgcpmfemcfoaaa

/-
  OrderSlide, both sides. (Walks.)
-/
namespace Go.Proofs.Ytpgcpmfemcfoaaa
open Go.RowKit

/-- a plan of a list of plans -/
theorem PlansV.at {w : World} {us : List Value} {L : List (List ByteArray)} (h : PlansV w us L) {i : Nat} (hi : i < L.length) : ∃ bo c, us[i]? = some (.slice bo (L.getD i []).length c) ∧ CellsAt w bo ((L.getD i []).map Value.string) := by
  have e : L[i]? = some (L.getD i []) := by simp [hi]
  obtain ⟨bo, c, h1, h2⟩ := h.2 i _ e
  exact ⟨bo, c, h1, h2.cells⟩
/-- what a loop over all plans knows of the list -/
structure AllAt (w : World) (g : Nat) (us : List Value) (h wd : Nat) : Prop where
  cells : CellsAt w (some ⟨g, 0, none⟩) us
  plans : PlansV w us (lstT h wd (allZ h wd))
theorem AllAt.below {w w' : World} {g : Nat} {us : List Value} {h wd : Nat} (A : AllAt w g us h wd) (hb : Below w.heap.size w w') : AllAt w' g us h wd := ⟨A.cells.below hb, A.plans.below hb⟩
theorem AllAt.at {w : World} {g : Nat} {us : List Value} {h wd : Nat} (A : AllAt w g us h wd) {i : Nat} (hi : i < (lstT h wd (allZ h wd)).length) : ∃ bo c, w.cell? ⟨g, i, none⟩ = some (.slice bo h c) ∧ CellsAt w bo (((lstT h wd (allZ h wd)).getD i []).map Value.string) := by
  obtain ⟨bo, c, h1, h2⟩ := A.plans.at hi
  obtain ⟨b, off, e, hc⟩ := A.cells i _ h1
  cases e
  have hl : ((lstT h wd (allZ h wd)).getD i []).length = h := by
    have : (lstT h wd (allZ h wd)).getD i [] ∈ lstT h wd (allZ h wd) := by simp [hi]
    unfold lstT at this ⊢
    obtain ⟨y, _, e⟩ := List.mem_map.1 this
    rw [← e]; exact txtZ_len _ _ _
  rw [hl, Nat.zero_add] at hc
  exact ⟨bo, c, hc, h2⟩
theorem lstT_leaf {h wd : Nat} (h1 : 1 ≤ h) (hh : h ≤ 6) (w1 : 1 ≤ wd) (hw : wd ≤ 6) (h9 : h * wd ≤ 9) {i : Nat} (hi : i < (lstT h wd (allZ h wd)).length) : planB ((lstT h wd (allZ h wd)).getD i []) = true ∧ ((lstT h wd (allZ h wd)).getD i []).length = h := by
  have : (lstT h wd (allZ h wd)).getD i [] ∈ lstT h wd (allZ h wd) := by simp [hi]
  unfold lstT at this ⊢
  obtain ⟨y, hy, e⟩ := List.mem_map.1 this
  rw [← e]
  exact ⟨(leaf h1 hh w1 hw h9 hy).plan, txtZ_len _ _ _⟩
end Go.Proofs.Ytpgcpmfemcfoaaa
