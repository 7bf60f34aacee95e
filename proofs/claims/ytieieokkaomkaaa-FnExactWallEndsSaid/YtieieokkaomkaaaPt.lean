
/-
  Points of a plan: the program's small functions. (Walks.)
-/
import Derived.Test.YtieieokkaomkaaaLong
namespace Go.Proofs.Ytieieokkaomkaaa
open Go.RowKit

/-- the cells of a point -/
def ptC (x : Nat × Nat) : Array Value := #[.int .i64 (x.1 : Nat), .int .i64 (x.2 : Nat)]
theorem ptC_size (x : Nat × Nat) : (ptC x).size = 2 := rfl
theorem ptC_one (x : Nat × Nat) : (ptC x).all (·.oneCell') = true := by
  rw [Array.all_eq_true_iff_forall_mem]
  intro v hv
  unfold ptC at hv
  simp only [List.mem_toArray, List.mem_cons, List.not_mem_nil, or_false] at hv
  rcases hv with rfl | rfl <;> rfl
theorem pt_size (x : Nat × Nat) : (Try.prog.info? 69).map (·.size) = some (ptC x).size := by rw [ptC_size]; kernel_rfl
/-- the point of a wall's line ahead of a cell -/
def ptAt (X : Wl) (i : Nat) : Nat × Nat := if X.way = 0 then (i, X.line) else (X.line, i)

/-- a point, handed back -/
theorem results_pt {fn : Func} {p : Tmp} (h : fn.results = #[.cell p 69]) {tmps : Array Value} {w : World} {B : Nat} {x : Nat × Nat}
    (hp : tmps.getD p undef = .pointer (some ⟨B, 0, none⟩)) (hB : HeldB w B 69 (ptC x)) :
    (results fn tmps).run Try.prog w = .ok (.agg (ptC x)) w :=
  results_cell_row h tmps w B 69 (ptC x) (0, 0) _ (by rw [hp]) hB Try.underlying69 rfl (by rw [ptC_size]; kernel_rfl)

set_option maxRecDepth 100000 in
set_option maxHeartbeats 1000000 in
theorem pointAt_any (X : Wl) (i : Nat) (w : World) :
    Calls Try.prog 57 #[.agg (wlC X), .int .i64 i] w
      fun e w' => e = .returned (.agg (ptC (ptAt X i))) ∧ Below w.heap.size w w' := by
  by_cases hw : X.way = 0
  · have hb : ((X.way : Int) == 0) = true := by simp [hw]
    have HP := Lib.hid (show ptAt X i = (i, X.line) from if_pos hw)
    have bX := (HeldB.new w 67 (wlC X)).alloc (.cells #[.int .i64 0, .int .i64 0] 69)
    have bZ : HeldB ((w.alloc (.cells (wlC X) 67)).alloc (.cells #[.int .i64 0, .int .i64 0] 69)) (w.heap.size + 1) 69 (ptC (0, 0)) := by
      have := HeldB.new (w.alloc (.cells (wlC X) 67)) 69 (ptC (0, 0))
      rwa [World.size_alloc] at this
    have c0 : World.cell? _ _ = some (.int .i64 (X.way : Nat)) := bX.cell 0
    have c1 : World.cell? _ _ = some (.int .i64 (X.line : Nat)) := bX.cell 1
    clear hw
    go_enter Try.func57, Try.ntmps57
    go_wp2_with (refine wpList_store_row rfl 69 _ _ rfl (w.heap.size + 1) (ptC (i, X.line)) rfl rfl 69 (ptC (0, 0)) bZ (pt_size _) rfl (ptC_one _) ?_)
    refine bodyPost_ret (v := .agg (ptC (i, X.line))) (results_pt Try.results57 rfl (bZ.setRow _)) rfl ⟨by rw [HP.out], ?_⟩
    exact below_setRowB (((Below.refl _ w).alloc (Nat.le_refl _) _).alloc (by simp) _) (by omega) _
  · have hb : ((X.way : Int) == 0) = false := by rw [beq_eq_false_iff_ne]; omega
    have HP := Lib.hid (show ptAt X i = (X.line, i) from if_neg hw)
    have bX := (HeldB.new w 67 (wlC X)).alloc (.cells #[.int .i64 0, .int .i64 0] 69)
    have bZ : HeldB ((w.alloc (.cells (wlC X) 67)).alloc (.cells #[.int .i64 0, .int .i64 0] 69)) (w.heap.size + 1) 69 (ptC (0, 0)) := by
      have := HeldB.new (w.alloc (.cells (wlC X) 67)) 69 (ptC (0, 0))
      rwa [World.size_alloc] at this
    have c0 : World.cell? _ _ = some (.int .i64 (X.way : Nat)) := bX.cell 0
    have c1 : World.cell? _ _ = some (.int .i64 (X.line : Nat)) := bX.cell 1
    clear hw
    go_enter Try.func57, Try.ntmps57
    go_wp2_with (refine wpList_store_row rfl 69 _ _ rfl (w.heap.size + 1) (ptC (X.line, i)) rfl rfl 69 (ptC (0, 0)) bZ (pt_size _) rfl (ptC_one _) ?_)
    refine bodyPost_ret (v := .agg (ptC (X.line, i))) (results_pt Try.results57 rfl (bZ.setRow _)) rfl ⟨by rw [HP.out], ?_⟩
    exact below_setRowB (((Below.refl _ w).alloc (Nat.le_refl _) _).alloc (by simp) _) (by omega) _

/-- a point lies at the outline -/
def outB (h wd : Nat) (x : Nat × Nat) : Bool := decide (x.1 = 0) || decide (x.1 = h) || decide (x.2 = 0) || decide (x.2 = wd)

set_option maxRecDepth 100000 in
set_option maxHeartbeats 2000000 in
theorem isOutline_any (h wd r : Nat) (g : Nat → Nat → Nat) (x : Nat × Nat) (w : World) :
    Calls Try.prog 51 #[.agg (planC h wd r g), .agg (ptC x)] w
      fun e w' => e = .returned (.bool (outB h wd x)) ∧ Below w.heap.size w w' := by
  obtain ⟨a, b⟩ := x
  have hp0 : (planC h wd r g)[0]? = some (.int .i64 (h : Nat)) := rfl
  have hp1 : (planC h wd r g)[1]? = some (.int .i64 (wd : Nat)) := rfl
  generalize planC h wd r g = C at *
  have bC := (HeldB.new w 38 C).alloc (.cells (ptC (a, b)) 69)
  have bX : HeldB ((w.alloc (.cells C 38)).alloc (.cells (ptC (a, b)) 69)) (w.heap.size + 1) 69 (ptC (a, b)) := by
    have := HeldB.new (w.alloc (.cells C 38)) 69 (ptC (a, b))
    rwa [World.size_alloc] at this
  have c0 : World.cell? _ _ = some (.int .i64 (h : Nat)) := (bC.cell 0).trans hp0
  have c1 : World.cell? _ _ = some (.int .i64 (wd : Nat)) := (bC.cell 1).trans hp1
  have x0 : World.cell? _ _ = some (.int .i64 (a : Nat)) := bX.cell 0
  have x1 : World.cell? _ _ = some (.int .i64 (b : Nat)) := bX.cell 1
  have hB : Below w.heap.size w ((w.alloc (.cells C 38)).alloc (.cells (ptC (a, b)) 69)) := ((Below.refl _ w).alloc (Nat.le_refl _) _).alloc (by simp) _
  unfold outB
  by_cases h1 : a = 0
  · have e1 : ((a : Int) == 0) = true := by simp [h1]
    have HO := Lib.hid (show (decide (a = 0) || decide (a = h) || decide (b = 0) || decide (b = wd)) = true by simp [h1])
    clear h1
    go_enter Try.func51, Try.ntmps51
    go_wp2
    go_ret
    exact ⟨by rw [HO.out]; rfl, hB⟩
  · have e1 : ((a : Int) == 0) = false := by rw [beq_eq_false_iff_ne]; omega
    by_cases h2 : a = h
    · have e2 : ((a : Int) == (h : Int)) = true := by simp [h2]
      have HO := Lib.hid (show (decide (a = 0) || decide (a = h) || decide (b = 0) || decide (b = wd)) = true by simp [h2])
      clear h1 h2
      go_enter Try.func51, Try.ntmps51
      go_wp2
      go_ret
      exact ⟨by rw [HO.out]; rfl, hB⟩
    · have e2 : ((a : Int) == (h : Int)) = false := by rw [beq_eq_false_iff_ne]; omega
      by_cases h3 : b = 0
      · have e3 : ((b : Int) == 0) = true := by simp [h3]
        have HO := Lib.hid (show (decide (a = 0) || decide (a = h) || decide (b = 0) || decide (b = wd)) = true by simp [h3])
        clear h1 h2 h3
        go_enter Try.func51, Try.ntmps51
        go_wp2
        go_ret
        exact ⟨by rw [HO.out]; rfl, hB⟩
      · have e3 : ((b : Int) == 0) = false := by rw [beq_eq_false_iff_ne]; omega
        have e4 : ((b : Int) == (wd : Int)) = decide (b = wd) := by
          rw [Bool.eq_iff_iff, beq_iff_eq, decide_eq_true_eq]; omega
        have HO := Lib.hid (show (decide (a = 0) || decide (a = h) || decide (b = 0) || decide (b = wd)) = decide (b = wd) by simp [h1, h2, h3])
        clear h1 h2 h3
        go_enter Try.func51, Try.ntmps51
        go_wp2
        go_ret
        exact ⟨ret_bool (by rw [HO.out]), hB⟩

end Go.Proofs.Ytieieokkaomkaaa
