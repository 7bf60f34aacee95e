
/-
  The program's permutations put below each other. (Walks.)
-/
import Derived.Test.YtkpjlglfhhdcbaaSevD
import Derived.OrdersHeld
namespace Go.Proofs.Ytkpjlglfhhdcbaa
open Go.RowKit

theorem op_go {P : Program} {ops : Array Oper} {Q : Exit → Act → World → Prop} {i : Nat} {o : Oper} {K : Act → World → Prop} {a : Act} {w : World} (hi : ops[i]? = some o) (hw : Region.wanted o (yielded ops a.tmps) = true) (h : o.wp P a w K Q) : wpOp P ops Q i K a w := by
  unfold wpOp
  simp only [hi, hw, if_true]
  exact .inl h
theorem yields_row {P : Program} {ops : Array Oper} {S : World → Prop} {op : Oper} {a : Act} (hw : Region.wanted op (yielded ops a.tmps) = true) (ty : TypeId) (x : Operand) (ho : op.op = .load ty x)
    (g : Nat) (hx : a.eval x = .pointer (some ⟨g, 0, none⟩)) (t : TypeId) (cs : Array Value) (d : TypeDesc) (hS : ∀ w, S w → HeldB w g t cs)
    (hu : P.underlying ty = some d) (hd : (match d with | .struct _ | .array _ _ => true | _ => false) = true) (hi : (P.info? ty).map (·.size) = some cs.size) : YieldsIf P ops S op (.agg cs) a :=
  .inl ⟨hw, fun w hw' => by
    unfold execOp
    simp only [ho, hx, Instr.loadAt, Instr.sureAddr, Sem.run_bind, Sem.run_pure, Result.andThen_ok, run_loadVar_row w g t ty cs (0, 0) d (hS w hw') hu hd hi]⟩

set_option maxRecDepth 100000 in
set_option maxHeartbeats 8000000 in
theorem undr_any {l m : List Int} (hl : Few l) (hm : Few m) (w : World) :
    Calls Try.prog 52 #[.agg (numC (padL l)), .agg (numC (padL m))] w fun e w' => e = .returned (.tuple #[.agg (numC (padL (asideR l.reverse m.reverse).reverse)), .bool (isN ((l.length : Int) + (m.length : Int)))]) ∧ Below w.heap.size w w' := by
  have hpl := padL_len hl.len
  have hpm := padL_len hm.len
  have HSL := Lib.hid (perm_size hpl)
  have HSM := Lib.hid (perm_size hpm)
  have hAf := asideR_few hl.rev hm.rev
  have hpa := padL_len hAf.len
  have hpb := padL_len hAf.rev.len
  have HSA := Lib.hid (perm_size hpa)
  have HSB := Lib.hid (perm_size hpb)
  have HNA := Lib.hid (numC_one (padL (asideR l.reverse m.reverse)))
  have HNB := Lib.hid (numC_one (padL (asideR l.reverse m.reverse).reverse))
  have HZA := Lib.hid (show (#[.int .i64 0, .int .i64 0, .int .i64 0, .int .i64 0, .int .i64 0, .int .i64 0, .int .i64 0] : Array Value).size = (numC (padL (asideR l.reverse m.reverse))).size by rw [numC_size, hpa]; rfl)
  have HZB := Lib.hid (show (#[.int .i64 0, .int .i64 0, .int .i64 0, .int .i64 0, .int .i64 0, .int .i64 0, .int .i64 0] : Array Value).size = (numC (padL (asideR l.reverse m.reverse).reverse)).size by rw [numC_size, hpb]; rfl)
  have HPB := Lib.hid hpb
  have HB1 := Lib.hid (fun (w : World) => back_any hl.lo w)
  have HB2 := Lib.hid (fun (w : World) => back_any hm.lo w)
  have HAS := Lib.hid (fun (w : World) => (by have := aside_any hl.rev hm.rev w; rw [List.length_reverse, List.length_reverse] at this; exact this : Calls Try.prog 51 #[.agg (numC (padL l.reverse)), .agg (numC (padL m.reverse))] w fun e w' => e = .returned (.tuple #[.agg (numC (padL (asideR l.reverse m.reverse))), .bool (isN ((l.length : Int) + (m.length : Int)))]) ∧ Below w.heap.size w w'))
  have HB3 := Lib.hid (fun (w : World) => back_any hAf.lo w)
  have h0 : HeldB (((w.alloc (.cells (numC (padL l)) 35)).alloc (.cells (numC (padL m)) 35)).alloc (.cells #[.int .i64 0, .int .i64 0, .int .i64 0, .int .i64 0, .int .i64 0, .int .i64 0, .int .i64 0] 35)) w.heap.size 35 (numC (padL l)) := ((HeldB.new w _ _).alloc _).alloc _
  have h1 : HeldB (((w.alloc (.cells (numC (padL l)) 35)).alloc (.cells (numC (padL m)) 35)).alloc (.cells #[.int .i64 0, .int .i64 0, .int .i64 0, .int .i64 0, .int .i64 0, .int .i64 0, .int .i64 0] 35)) (w.heap.size + 1) 35 (numC (padL m)) := by
    have := HeldB.new (w.alloc (.cells (numC (padL l)) 35)) 35 (numC (padL m))
    rw [World.size_alloc] at this
    exact this.alloc _
  have h2 : HeldB (((w.alloc (.cells (numC (padL l)) 35)).alloc (.cells (numC (padL m)) 35)).alloc (.cells #[.int .i64 0, .int .i64 0, .int .i64 0, .int .i64 0, .int .i64 0, .int .i64 0, .int .i64 0] 35)) (w.heap.size + 1 + 1) 35 #[.int .i64 0, .int .i64 0, .int .i64 0, .int .i64 0, .int .i64 0, .int .i64 0, .int .i64 0] := by
    have := HeldB.new ((w.alloc (.cells (numC (padL l)) 35)).alloc (.cells (numC (padL m)) 35)) 35 #[.int .i64 0, .int .i64 0, .int .i64 0, .int .i64 0, .int .i64 0, .int .i64 0, .int .i64 0]
    rwa [World.size_alloc, World.size_alloc] at this
  have hb0 : Below w.heap.size w (((w.alloc (.cells (numC (padL l)) 35)).alloc (.cells (numC (padL m)) 35)).alloc (.cells #[.int .i64 0, .int .i64 0, .int .i64 0, .int .i64 0, .int .i64 0, .int .i64 0, .int .i64 0] 35)) := (((Below.refl _ w).alloc (Nat.le_refl _) _).alloc (by simp) _).alloc (by simp; omega) _
  clear hpl hpm hpa hpb hAf
  generalize numC (padL l) = L at *
  generalize numC (padL m) = M at *
  generalize hLB : numC (padL l.reverse) = LB at *
  generalize hMB : numC (padL m.reverse) = MB at *
  generalize isN ((l.length : Int) + (m.length : Int)) = ok at *
  generalize hAA : asideR l.reverse m.reverse = A at *
  clear hLB hMB hAA hl hm
  go_enter Try.func52, Try.ntmps52
  go_wp2
  have hS0 : (HeldB (((w.alloc (.cells L 35)).alloc (.cells M 35)).alloc (.cells #[.int .i64 0, .int .i64 0, .int .i64 0, .int .i64 0, .int .i64 0, .int .i64 0, .int .i64 0] 35)) w.heap.size 35 L ∧ HeldB (((w.alloc (.cells L 35)).alloc (.cells M 35)).alloc (.cells #[.int .i64 0, .int .i64 0, .int .i64 0, .int .i64 0, .int .i64 0, .int .i64 0, .int .i64 0] 35)) (w.heap.size + 1) 35 M) ∧ HeldB (((w.alloc (.cells L 35)).alloc (.cells M 35)).alloc (.cells #[.int .i64 0, .int .i64 0, .int .i64 0, .int .i64 0, .int .i64 0, .int .i64 0, .int .i64 0] 35)) (w.heap.size + 1 + 1) 35 #[.int .i64 0, .int .i64 0, .int .i64 0, .int .i64 0, .int .i64 0, .int .i64 0, .int .i64 0] ∧ Below w.heap.size w (((w.alloc (.cells L 35)).alloc (.cells M 35)).alloc (.cells #[.int .i64 0, .int .i64 0, .int .i64 0, .int .i64 0, .int .i64 0, .int .i64 0, .int .i64 0] 35)) := ⟨⟨h0, h1⟩, h2, hb0⟩
  generalize hW : ((w.alloc (.cells L 35)).alloc (.cells M 35)).alloc (.cells #[.int .i64 0, .int .i64 0, .int .i64 0, .int .i64 0, .int .i64 0, .int .i64 0, .int .i64 0] 35) = W at *
  clear hW h0 h1 h2 hb0
  have hSb : ∀ w1 w2 : World, ((HeldB w1 w.heap.size 35 L ∧ HeldB w1 (w.heap.size + 1) 35 M) ∧ HeldB w1 (w.heap.size + 1 + 1) 35 #[.int .i64 0, .int .i64 0, .int .i64 0, .int .i64 0, .int .i64 0, .int .i64 0, .int .i64 0] ∧ Below w.heap.size w w1) → Below w1.heap.size w1 w2 → ((HeldB w2 w.heap.size 35 L ∧ HeldB w2 (w.heap.size + 1) 35 M) ∧ HeldB w2 (w.heap.size + 1 + 1) 35 #[.int .i64 0, .int .i64 0, .int .i64 0, .int .i64 0, .int .i64 0, .int .i64 0, .int .i64 0] ∧ Below w.heap.size w w2) := fun w1 w2 ⟨⟨a, b⟩, c, d⟩ hb => ⟨⟨a.below hb, b.below hb⟩, c.below hb, below_step d d.size hb⟩
  have HSb := Lib.hid hSb; clear hSb
  refine wp_region_held (S := fun w' => (HeldB w' w.heap.size 35 L ∧ HeldB w' (w.heap.size + 1) 35 M) ∧ HeldB w' (w.heap.size + 1 + 1) 35 #[.int .i64 0, .int .i64 0, .int .i64 0, .int .i64 0, .int .i64 0, .int .i64 0, .int .i64 0] ∧ Below w.heap.size w w') (by kernel_rfl) ?_
  have s0 := HSb.out W ({ W with drawn := W.drawn + 1 } : World) hS0 (below_drewN _ W 1)
  generalize ({ W with drawn := W.drawn + 1 } : World) = W2 at *
  clear hS0
  change Go.wpAnyH Try.prog Region.Mode.any _ _ _ 11 (Array.replicate 11 false) _ _
  refine wpAnyH_take (i := 0) (v := .agg L) rfl (by kernel_rfl) (by kernel_rfl) (by kernel_rfl) (fun _ _ _ h => h) (yields_row (by rfl) 35 _ rfl w.heap.size (by rfl) 35 L _ (fun _ h => h.1.1) Try.underlying35 rfl HSL.out) s0 ?_
  refine wpAnyH_take (i := 2) (v := .agg M) rfl (by kernel_rfl) (by kernel_rfl) (by kernel_rfl) (fun _ _ _ h => h) (yields_row (by rfl) 35 _ rfl (w.heap.size + 1) (by rfl) 35 M _ (fun _ h => h.1.2) Try.underlying35 rfl HSM.out) s0 ?_
  refine wpAnyH_all (rs := [1, 8]) (by kernel_rfl) (by decide) ?_
  intro i hi
  simp only [List.mem_cons, List.not_mem_nil, or_false] at hi
  rcases hi with rfl | rfl
  · skip
    refine op_go rfl (by rfl) ?_
    unfold Oper.wp
    go_simp
    refine (HB1.out _).mono ?_
    rintro e w1 ⟨rfl, hb1⟩
    have s1 := HSb.out _ _ s0 hb1
    clear hb1
    refine ⟨s1, ?_⟩
    refine wpAnyH_all (rs := [3, 8]) (by kernel_rfl) (by decide) ?_
    intro i hi
    simp only [List.mem_cons, List.not_mem_nil, or_false] at hi
    rcases hi with rfl | rfl
    · skip
      refine op_go rfl (by rfl) ?_
      unfold Oper.wp
      go_simp
      refine (HB2.out _).mono ?_
      rintro e w2 ⟨rfl, hb2⟩
      have s2 := HSb.out _ _ s1 hb2
      clear hb2
      refine ⟨s2, ?_⟩
      refine wpAnyH_all (rs := [4, 8]) (by kernel_rfl) (by decide) ?_
      intro i hi
      simp only [List.mem_cons, List.not_mem_nil, or_false] at hi
      rcases hi with rfl | rfl
      · skip
        refine op_go rfl (by rfl) ?_
        unfold Oper.wp
        go_simp
        refine (HAS.out _).mono ?_
        rintro e w3 ⟨rfl, hb3⟩
        have s3 := HSb.out _ _ s2 hb3
        clear hb3
        refine ⟨s3, ?_⟩
        refine wpAnyH_take (i := 5) (v := .tuple #[.agg (numC (padL A)), .bool ok]) rfl (by kernel_rfl) (by kernel_rfl) (by kernel_rfl) (fun _ _ _ h => h) (Yields.yieldsIf (Or.inl ⟨by rfl, fun w => by go_simp⟩)) s3 ?_
        refine wpAnyH_take (i := 6) (v := .agg (numC (padL A))) rfl (by kernel_rfl) (by kernel_rfl) (by kernel_rfl) (fun _ _ _ h => h) (Yields.yieldsIf (Or.inl ⟨by rfl, fun w => by go_simp⟩)) s3 ?_
        refine wpAnyH_take (i := 7) (v := .bool ok) rfl (by kernel_rfl) (by kernel_rfl) (by kernel_rfl) (fun _ _ _ h => h) (Yields.yieldsIf (Or.inl ⟨by rfl, fun w => by go_simp⟩)) s3 ?_
        refine wpAnyH_all (rs := [8]) (by kernel_rfl) (by decide) ?_
        intro i hi
        simp only [List.mem_cons, List.not_mem_nil, or_false] at hi
        subst hi
        refine op_go rfl (by rfl) ?_
        unfold Oper.wp
        go_simp
        have hlt6 := s3.2.1.lt
        have s4 := HSb.out _ _ s3 (below_alloc w3 (.cells #[.int .i64 0, .int .i64 0, .int .i64 0, .int .i64 0, .int .i64 0, .int .i64 0, .int .i64 0] 35))
        have q4 := HeldB.new w3 35 #[.int .i64 0, .int .i64 0, .int .i64 0, .int .i64 0, .int .i64 0, .int .i64 0, .int .i64 0]
        generalize w3.heap.size = B6 at *
        generalize hc4 : w3.alloc (.cells #[.int .i64 0, .int .i64 0, .int .i64 0, .int .i64 0, .int .i64 0, .int .i64 0, .int .i64 0] 35) = w4 at *
        clear hc4
        refine ⟨s4, ?_⟩
        refine wpAnyH_all (rs := [9]) (by kernel_rfl) (by decide) ?_
        intro i hi
        simp only [List.mem_cons, List.not_mem_nil, or_false] at hi
        subst hi
        refine op_go rfl (by rfl) ?_
        refine wp_store_row 35 _ _ rfl B6 (numC (padL A)) rfl rfl 35 #[.int .i64 0, .int .i64 0, .int .i64 0, .int .i64 0, .int .i64 0, .int .i64 0, .int .i64 0] q4 HSA.out HZA.out HNA.out ?_
        have c0 := s4.1.1.otherRow (B' := B6) (by omega) (numC (padL A))
        have c1 := s4.1.2.otherRow (B' := B6) (by omega) (numC (padL A))
        have c2 := s4.2.1.otherRow (B' := B6) (by omega) (numC (padL A))
        have c3 := below_setRowB s4.2.2 (show w.heap.size ≤ B6 by omega) (numC (padL A))
        have c4 := q4.setRow (numC (padL A))
        refine ⟨⟨⟨c0, c1⟩, c2, c3⟩, ?_⟩
        simp only [List.getElem_toArray, List.getElem_cons_succ, List.getElem_cons_zero, Act.put]
        generalize w4.setRow B6 (numC (padL A)) = W9 at *
        refine wpAnyH_take (i := 10) (v := .bool ok) rfl (by kernel_rfl) (by kernel_rfl) (by kernel_rfl) (fun _ _ _ h => h) (Yields.yieldsIf (Or.inl ⟨by rfl, fun w => by go_simp⟩)) ⟨⟨c0, c1⟩, c2, c3⟩ ?_
        refine wpAnyH_done (by kernel_rfl) ?_ _
        simp only [List.getElem_toArray, List.getElem_cons_succ, List.getElem_cons_zero, Act.put, List.setIfInBounds_toArray, List.set_cons_succ, List.set_cons_zero]
        go_wp2_with (first
          | (refine wpList_load_row rfl 35 _ rfl B6 rfl 35 _ (0, 0) _ c4 Try.underlying35 rfl HSA.out ?_)
          | (go_at_call 46; refine (HB3.out _).mono ?_; rintro e w10 ⟨rfl, hb10⟩; have d2 := c2.below hb10; have d3 := below_step c3 c3.size hb10)
          | (refine wpList_store_row rfl 35 _ _ rfl (w.heap.size + 1 + 1) _ rfl rfl 35 _ d2 HSB.out HZB.out HNB.out ?_))
        exact bodyPost_ret (v := .tuple #[.agg (numC (padL A.reverse)), .bool ok]) (results_perm2 Try.results52 rfl (d2.setRow _) HPB.out rfl) rfl ⟨rfl, below_setRowB d3 (by omega) _⟩
      · skip
        refine op_go rfl (by rfl) ?_
        unfold Oper.wp
        go_simp
        have hlt6 := s2.2.1.lt
        have s3 := HSb.out _ _ s2 (below_alloc w2 (.cells #[.int .i64 0, .int .i64 0, .int .i64 0, .int .i64 0, .int .i64 0, .int .i64 0, .int .i64 0] 35))
        have q3 := HeldB.new w2 35 #[.int .i64 0, .int .i64 0, .int .i64 0, .int .i64 0, .int .i64 0, .int .i64 0, .int .i64 0]
        generalize w2.heap.size = B6 at *
        generalize hc3 : w2.alloc (.cells #[.int .i64 0, .int .i64 0, .int .i64 0, .int .i64 0, .int .i64 0, .int .i64 0, .int .i64 0] 35) = w3 at *
        clear hc3
        refine ⟨s3, ?_⟩
        refine wpAnyH_all (rs := [4]) (by kernel_rfl) (by decide) ?_
        intro i hi
        simp only [List.mem_cons, List.not_mem_nil, or_false] at hi
        subst hi
        refine op_go rfl (by rfl) ?_
        unfold Oper.wp
        go_simp
        refine (HAS.out _).mono ?_
        rintro e w4 ⟨rfl, hb4⟩
        have s4 := HSb.out _ _ s3 hb4
        have q4 := q3.below hb4
        clear hb4
        refine ⟨s4, ?_⟩
        refine wpAnyH_take (i := 5) (v := .tuple #[.agg (numC (padL A)), .bool ok]) rfl (by kernel_rfl) (by kernel_rfl) (by kernel_rfl) (fun _ _ _ h => h) (Yields.yieldsIf (Or.inl ⟨by rfl, fun w => by go_simp⟩)) s4 ?_
        refine wpAnyH_take (i := 6) (v := .agg (numC (padL A))) rfl (by kernel_rfl) (by kernel_rfl) (by kernel_rfl) (fun _ _ _ h => h) (Yields.yieldsIf (Or.inl ⟨by rfl, fun w => by go_simp⟩)) s4 ?_
        refine wpAnyH_take (i := 7) (v := .bool ok) rfl (by kernel_rfl) (by kernel_rfl) (by kernel_rfl) (fun _ _ _ h => h) (Yields.yieldsIf (Or.inl ⟨by rfl, fun w => by go_simp⟩)) s4 ?_
        simp only [List.getElem_toArray, List.getElem_cons_succ, List.getElem_cons_zero, Act.put, List.setIfInBounds_toArray, List.set_cons_succ, List.set_cons_zero]
        refine wpAnyH_all (rs := [9]) (by kernel_rfl) (by decide) ?_
        intro i hi
        simp only [List.mem_cons, List.not_mem_nil, or_false] at hi
        subst hi
        refine op_go rfl (by rfl) ?_
        refine wp_store_row 35 _ _ rfl B6 (numC (padL A)) rfl rfl 35 #[.int .i64 0, .int .i64 0, .int .i64 0, .int .i64 0, .int .i64 0, .int .i64 0, .int .i64 0] q4 HSA.out HZA.out HNA.out ?_
        have c0 := s4.1.1.otherRow (B' := B6) (by omega) (numC (padL A))
        have c1 := s4.1.2.otherRow (B' := B6) (by omega) (numC (padL A))
        have c2 := s4.2.1.otherRow (B' := B6) (by omega) (numC (padL A))
        have c3 := below_setRowB s4.2.2 (show w.heap.size ≤ B6 by omega) (numC (padL A))
        have c4 := q4.setRow (numC (padL A))
        refine ⟨⟨⟨c0, c1⟩, c2, c3⟩, ?_⟩
        simp only [List.getElem_toArray, List.getElem_cons_succ, List.getElem_cons_zero, Act.put]
        generalize w4.setRow B6 (numC (padL A)) = W9 at *
        refine wpAnyH_take (i := 10) (v := .bool ok) rfl (by kernel_rfl) (by kernel_rfl) (by kernel_rfl) (fun _ _ _ h => h) (Yields.yieldsIf (Or.inl ⟨by rfl, fun w => by go_simp⟩)) ⟨⟨c0, c1⟩, c2, c3⟩ ?_
        refine wpAnyH_done (by kernel_rfl) ?_ _
        simp only [List.getElem_toArray, List.getElem_cons_succ, List.getElem_cons_zero, Act.put, List.setIfInBounds_toArray, List.set_cons_succ, List.set_cons_zero]
        go_wp2_with (first
          | (refine wpList_load_row rfl 35 _ rfl B6 rfl 35 _ (0, 0) _ c4 Try.underlying35 rfl HSA.out ?_)
          | (go_at_call 46; refine (HB3.out _).mono ?_; rintro e w10 ⟨rfl, hb10⟩; have d2 := c2.below hb10; have d3 := below_step c3 c3.size hb10)
          | (refine wpList_store_row rfl 35 _ _ rfl (w.heap.size + 1 + 1) _ rfl rfl 35 _ d2 HSB.out HZB.out HNB.out ?_))
        exact bodyPost_ret (v := .tuple #[.agg (numC (padL A.reverse)), .bool ok]) (results_perm2 Try.results52 rfl (d2.setRow _) HPB.out rfl) rfl ⟨rfl, below_setRowB d3 (by omega) _⟩
    · skip
      refine op_go rfl (by rfl) ?_
      unfold Oper.wp
      go_simp
      have hlt6 := s1.2.1.lt
      have s2 := HSb.out _ _ s1 (below_alloc w1 (.cells #[.int .i64 0, .int .i64 0, .int .i64 0, .int .i64 0, .int .i64 0, .int .i64 0, .int .i64 0] 35))
      have q2 := HeldB.new w1 35 #[.int .i64 0, .int .i64 0, .int .i64 0, .int .i64 0, .int .i64 0, .int .i64 0, .int .i64 0]
      generalize w1.heap.size = B6 at *
      generalize hc2 : w1.alloc (.cells #[.int .i64 0, .int .i64 0, .int .i64 0, .int .i64 0, .int .i64 0, .int .i64 0, .int .i64 0] 35) = w2 at *
      clear hc2
      refine ⟨s2, ?_⟩
      refine wpAnyH_all (rs := [3]) (by kernel_rfl) (by decide) ?_
      intro i hi
      simp only [List.mem_cons, List.not_mem_nil, or_false] at hi
      subst hi
      refine op_go rfl (by rfl) ?_
      unfold Oper.wp
      go_simp
      refine (HB2.out _).mono ?_
      rintro e w3 ⟨rfl, hb3⟩
      have s3 := HSb.out _ _ s2 hb3
      have q3 := q2.below hb3
      clear hb3
      refine ⟨s3, ?_⟩
      refine wpAnyH_all (rs := [4]) (by kernel_rfl) (by decide) ?_
      intro i hi
      simp only [List.mem_cons, List.not_mem_nil, or_false] at hi
      subst hi
      refine op_go rfl (by rfl) ?_
      unfold Oper.wp
      go_simp
      refine (HAS.out _).mono ?_
      rintro e w4 ⟨rfl, hb4⟩
      have s4 := HSb.out _ _ s3 hb4
      have q4 := q3.below hb4
      clear hb4
      refine ⟨s4, ?_⟩
      refine wpAnyH_take (i := 5) (v := .tuple #[.agg (numC (padL A)), .bool ok]) rfl (by kernel_rfl) (by kernel_rfl) (by kernel_rfl) (fun _ _ _ h => h) (Yields.yieldsIf (Or.inl ⟨by rfl, fun w => by go_simp⟩)) s4 ?_
      refine wpAnyH_take (i := 6) (v := .agg (numC (padL A))) rfl (by kernel_rfl) (by kernel_rfl) (by kernel_rfl) (fun _ _ _ h => h) (Yields.yieldsIf (Or.inl ⟨by rfl, fun w => by go_simp⟩)) s4 ?_
      refine wpAnyH_take (i := 7) (v := .bool ok) rfl (by kernel_rfl) (by kernel_rfl) (by kernel_rfl) (fun _ _ _ h => h) (Yields.yieldsIf (Or.inl ⟨by rfl, fun w => by go_simp⟩)) s4 ?_
      simp only [List.getElem_toArray, List.getElem_cons_succ, List.getElem_cons_zero, Act.put, List.setIfInBounds_toArray, List.set_cons_succ, List.set_cons_zero]
      refine wpAnyH_all (rs := [9]) (by kernel_rfl) (by decide) ?_
      intro i hi
      simp only [List.mem_cons, List.not_mem_nil, or_false] at hi
      subst hi
      refine op_go rfl (by rfl) ?_
      refine wp_store_row 35 _ _ rfl B6 (numC (padL A)) rfl rfl 35 #[.int .i64 0, .int .i64 0, .int .i64 0, .int .i64 0, .int .i64 0, .int .i64 0, .int .i64 0] q4 HSA.out HZA.out HNA.out ?_
      have c0 := s4.1.1.otherRow (B' := B6) (by omega) (numC (padL A))
      have c1 := s4.1.2.otherRow (B' := B6) (by omega) (numC (padL A))
      have c2 := s4.2.1.otherRow (B' := B6) (by omega) (numC (padL A))
      have c3 := below_setRowB s4.2.2 (show w.heap.size ≤ B6 by omega) (numC (padL A))
      have c4 := q4.setRow (numC (padL A))
      refine ⟨⟨⟨c0, c1⟩, c2, c3⟩, ?_⟩
      simp only [List.getElem_toArray, List.getElem_cons_succ, List.getElem_cons_zero, Act.put]
      generalize w4.setRow B6 (numC (padL A)) = W9 at *
      refine wpAnyH_take (i := 10) (v := .bool ok) rfl (by kernel_rfl) (by kernel_rfl) (by kernel_rfl) (fun _ _ _ h => h) (Yields.yieldsIf (Or.inl ⟨by rfl, fun w => by go_simp⟩)) ⟨⟨c0, c1⟩, c2, c3⟩ ?_
      refine wpAnyH_done (by kernel_rfl) ?_ _
      simp only [List.getElem_toArray, List.getElem_cons_succ, List.getElem_cons_zero, Act.put, List.setIfInBounds_toArray, List.set_cons_succ, List.set_cons_zero]
      go_wp2_with (first
        | (refine wpList_load_row rfl 35 _ rfl B6 rfl 35 _ (0, 0) _ c4 Try.underlying35 rfl HSA.out ?_)
        | (go_at_call 46; refine (HB3.out _).mono ?_; rintro e w10 ⟨rfl, hb10⟩; have d2 := c2.below hb10; have d3 := below_step c3 c3.size hb10)
        | (refine wpList_store_row rfl 35 _ _ rfl (w.heap.size + 1 + 1) _ rfl rfl 35 _ d2 HSB.out HZB.out HNB.out ?_))
      exact bodyPost_ret (v := .tuple #[.agg (numC (padL A.reverse)), .bool ok]) (results_perm2 Try.results52 rfl (d2.setRow _) HPB.out rfl) rfl ⟨rfl, below_setRowB d3 (by omega) _⟩
  · skip
    refine op_go rfl (by rfl) ?_
    unfold Oper.wp
    go_simp
    have hlt6 := s0.2.1.lt
    have s1 := HSb.out _ _ s0 (below_alloc W2 (.cells #[.int .i64 0, .int .i64 0, .int .i64 0, .int .i64 0, .int .i64 0, .int .i64 0, .int .i64 0] 35))
    have q1 := HeldB.new W2 35 #[.int .i64 0, .int .i64 0, .int .i64 0, .int .i64 0, .int .i64 0, .int .i64 0, .int .i64 0]
    generalize W2.heap.size = B6 at *
    generalize hc1 : W2.alloc (.cells #[.int .i64 0, .int .i64 0, .int .i64 0, .int .i64 0, .int .i64 0, .int .i64 0, .int .i64 0] 35) = w1 at *
    clear hc1
    refine ⟨s1, ?_⟩
    refine wpAnyH_all (rs := [1]) (by kernel_rfl) (by decide) ?_
    intro i hi
    simp only [List.mem_cons, List.not_mem_nil, or_false] at hi
    subst hi
    refine op_go rfl (by rfl) ?_
    unfold Oper.wp
    go_simp
    refine (HB1.out _).mono ?_
    rintro e w2 ⟨rfl, hb2⟩
    have s2 := HSb.out _ _ s1 hb2
    have q2 := q1.below hb2
    clear hb2
    refine ⟨s2, ?_⟩
    refine wpAnyH_all (rs := [3]) (by kernel_rfl) (by decide) ?_
    intro i hi
    simp only [List.mem_cons, List.not_mem_nil, or_false] at hi
    subst hi
    refine op_go rfl (by rfl) ?_
    unfold Oper.wp
    go_simp
    refine (HB2.out _).mono ?_
    rintro e w3 ⟨rfl, hb3⟩
    have s3 := HSb.out _ _ s2 hb3
    have q3 := q2.below hb3
    clear hb3
    refine ⟨s3, ?_⟩
    refine wpAnyH_all (rs := [4]) (by kernel_rfl) (by decide) ?_
    intro i hi
    simp only [List.mem_cons, List.not_mem_nil, or_false] at hi
    subst hi
    refine op_go rfl (by rfl) ?_
    unfold Oper.wp
    go_simp
    refine (HAS.out _).mono ?_
    rintro e w4 ⟨rfl, hb4⟩
    have s4 := HSb.out _ _ s3 hb4
    have q4 := q3.below hb4
    clear hb4
    refine ⟨s4, ?_⟩
    refine wpAnyH_take (i := 5) (v := .tuple #[.agg (numC (padL A)), .bool ok]) rfl (by kernel_rfl) (by kernel_rfl) (by kernel_rfl) (fun _ _ _ h => h) (Yields.yieldsIf (Or.inl ⟨by rfl, fun w => by go_simp⟩)) s4 ?_
    refine wpAnyH_take (i := 6) (v := .agg (numC (padL A))) rfl (by kernel_rfl) (by kernel_rfl) (by kernel_rfl) (fun _ _ _ h => h) (Yields.yieldsIf (Or.inl ⟨by rfl, fun w => by go_simp⟩)) s4 ?_
    refine wpAnyH_take (i := 7) (v := .bool ok) rfl (by kernel_rfl) (by kernel_rfl) (by kernel_rfl) (fun _ _ _ h => h) (Yields.yieldsIf (Or.inl ⟨by rfl, fun w => by go_simp⟩)) s4 ?_
    simp only [List.getElem_toArray, List.getElem_cons_succ, List.getElem_cons_zero, Act.put, List.setIfInBounds_toArray, List.set_cons_succ, List.set_cons_zero]
    refine wpAnyH_all (rs := [9]) (by kernel_rfl) (by decide) ?_
    intro i hi
    simp only [List.mem_cons, List.not_mem_nil, or_false] at hi
    subst hi
    refine op_go rfl (by rfl) ?_
    refine wp_store_row 35 _ _ rfl B6 (numC (padL A)) rfl rfl 35 #[.int .i64 0, .int .i64 0, .int .i64 0, .int .i64 0, .int .i64 0, .int .i64 0, .int .i64 0] q4 HSA.out HZA.out HNA.out ?_
    have c0 := s4.1.1.otherRow (B' := B6) (by omega) (numC (padL A))
    have c1 := s4.1.2.otherRow (B' := B6) (by omega) (numC (padL A))
    have c2 := s4.2.1.otherRow (B' := B6) (by omega) (numC (padL A))
    have c3 := below_setRowB s4.2.2 (show w.heap.size ≤ B6 by omega) (numC (padL A))
    have c4 := q4.setRow (numC (padL A))
    refine ⟨⟨⟨c0, c1⟩, c2, c3⟩, ?_⟩
    simp only [List.getElem_toArray, List.getElem_cons_succ, List.getElem_cons_zero, Act.put]
    generalize w4.setRow B6 (numC (padL A)) = W9 at *
    refine wpAnyH_take (i := 10) (v := .bool ok) rfl (by kernel_rfl) (by kernel_rfl) (by kernel_rfl) (fun _ _ _ h => h) (Yields.yieldsIf (Or.inl ⟨by rfl, fun w => by go_simp⟩)) ⟨⟨c0, c1⟩, c2, c3⟩ ?_
    refine wpAnyH_done (by kernel_rfl) ?_ _
    simp only [List.getElem_toArray, List.getElem_cons_succ, List.getElem_cons_zero, Act.put, List.setIfInBounds_toArray, List.set_cons_succ, List.set_cons_zero]
    go_wp2_with (first
      | (refine wpList_load_row rfl 35 _ rfl B6 rfl 35 _ (0, 0) _ c4 Try.underlying35 rfl HSA.out ?_)
      | (go_at_call 46; refine (HB3.out _).mono ?_; rintro e w10 ⟨rfl, hb10⟩; have d2 := c2.below hb10; have d3 := below_step c3 c3.size hb10)
      | (refine wpList_store_row rfl 35 _ _ rfl (w.heap.size + 1 + 1) _ rfl rfl 35 _ d2 HSB.out HZB.out HNB.out ?_))
    exact bodyPost_ret (v := .tuple #[.agg (numC (padL A.reverse)), .bool ok]) (results_perm2 Try.results52 rfl (d2.setRow _) HPB.out rfl) rfl ⟨rfl, below_setRowB d3 (by omega) _⟩

end Go.Proofs.Ytkpjlglfhhdcbaa
