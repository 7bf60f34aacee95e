
/-
  The program's permutations: four places in one of the two orders. (Walks, and the mathematics of it.)
-/
import Derived.Test.YtkpjlglfhhdcbaaSevJ
namespace Go.Proofs.Ytkpjlglfhhdcbaa
open Go.RowKit

theorem wpList_cmp {P : Program} {w : World} {ops : Array Oper} {rest : List Oper} {o : Oper} {a : Act} {Q : Exit → Act → World → Prop} (hw : Region.wanted o (yielded ops a.tmps) = true) (op : BinOp) (t t2 : TypeId) (x y : Operand) (ho : o.op = .binOp op t x y t2) (v : Value)
    (hgd : (eqGuard op t x y (a.eval x) (a.eval y)).run P w = .ok () w) (hrun : (binOp op t (a.eval x) (a.eval y)).run P w = .ok v w) (h : wpList P ops Q rest (a.put o.dst v) w) : wpList P ops Q (o :: rest) a w :=
  wpList_step fun K hK => by
    rw [if_pos hw]
    unfold Oper.wp execOp
    simp only [ho]
    simp [hgd, hrun, Result.andThen]
    exact hK _ _ h

def r4 (xa xb xc xd v : Int) : Int := (if xa ≤ v then 1 else 0) + (if xb ≤ v then 1 else 0) + (if xc ≤ v then 1 else 0) + (if xd ≤ v then 1 else 0)
theorem rk_vals (P : List Int) (a b c d : Nat) : rkL P (fourN a b c d) 4 0 = [r4 (P.getD a 0) (P.getD b 0) (P.getD c 0) (P.getD d 0) (P.getD a 0), r4 (P.getD a 0) (P.getD b 0) (P.getD c 0) (P.getD d 0) (P.getD b 0), r4 (P.getD a 0) (P.getD b 0) (P.getD c 0) (P.getD d 0) (P.getD c 0), r4 (P.getD a 0) (P.getD b 0) (P.getD c 0) (P.getD d 0) (P.getD d 0)] := by
  have key : ∀ i, i < 4 → ((rkN P (fourN a b c d) i 4 : Nat) : Int) = r4 (P.getD a 0) (P.getD b 0) (P.getD c 0) (P.getD d 0) (P.getD ((fourN a b c d).getD i 0) 0) := by
    intro i _
    simp only [rkN, r4, fourN, List.getD_cons_zero, List.getD_cons_succ]
    by_cases h1 : P.getD a 0 ≤ P.getD (([a, b, c, d] : List Nat).getD i 0) 0 <;> by_cases h2 : P.getD b 0 ≤ P.getD (([a, b, c, d] : List Nat).getD i 0) 0 <;> by_cases h3 : P.getD c 0 ≤ P.getD (([a, b, c, d] : List Nat).getD i 0) 0 <;> by_cases h4 : P.getD d 0 ≤ P.getD (([a, b, c, d] : List Nat).getD i 0) 0 <;> simp only [h1, h2, h3, h4, if_true, if_false] <;> rfl
  refine list_ext (by rw [rkL_len]; rfl) fun i hi => ?_
  rw [rkL_len] at hi
  rw [rkL_at hi, if_pos hi, key i hi]
  rcases (show i = 0 ∨ i = 1 ∨ i = 2 ∨ i = 3 by omega) with rfl | rfl | rfl | rfl <;> rfl
theorem r4_twist (xa xb xc xd : Int) :
    ([r4 xa xb xc xd xa, r4 xa xb xc xd xb, r4 xa xb xc xd xc, r4 xa xb xc xd xd] = [2, 4, 1, 3] ↔ xc < xa ∧ xa < xd ∧ xd < xb) ∧
    ([r4 xa xb xc xd xa, r4 xa xb xc xd xb, r4 xa xb xc xd xc, r4 xa xb xc xd xd] = [3, 1, 4, 2] ↔ xb < xd ∧ xd < xa ∧ xa < xc) := by
  simp only [r4, List.cons.injEq, and_true, Int.le_refl, if_true]
  constructor
  · constructor
    · rintro ⟨e1, e2, e3, e4⟩
      refine ⟨?_, ?_, ?_⟩ <;> (split at e1 <;> split at e1 <;> split at e1 <;> split at e3 <;> split at e3 <;> split at e3 <;> omega)
    · rintro ⟨e1, e2, e3⟩
      rw [if_neg (show ¬ xb ≤ xa by omega), if_pos (show xc ≤ xa by omega), if_neg (show ¬ xd ≤ xa by omega), if_pos (show xa ≤ xb by omega), if_pos (show xc ≤ xb by omega), if_pos (show xd ≤ xb by omega), if_neg (show ¬ xa ≤ xc by omega), if_neg (show ¬ xb ≤ xc by omega), if_neg (show ¬ xd ≤ xc by omega), if_pos (show xa ≤ xd by omega), if_neg (show ¬ xb ≤ xd by omega), if_pos (show xc ≤ xd by omega)]
      decide
  · constructor
    · rintro ⟨e1, e2, e3, e4⟩
      refine ⟨?_, ?_, ?_⟩ <;> (split at e1 <;> split at e1 <;> split at e1 <;> split at e2 <;> split at e2 <;> split at e2 <;> omega)
    · rintro ⟨e1, e2, e3⟩
      rw [if_pos (show xb ≤ xa by omega), if_neg (show ¬ xc ≤ xa by omega), if_pos (show xd ≤ xa by omega), if_neg (show ¬ xa ≤ xb by omega), if_neg (show ¬ xc ≤ xb by omega), if_neg (show ¬ xd ≤ xb by omega), if_pos (show xa ≤ xc by omega), if_pos (show xb ≤ xc by omega), if_pos (show xd ≤ xc by omega), if_neg (show ¬ xa ≤ xd by omega), if_pos (show xb ≤ xd by omega), if_neg (show ¬ xc ≤ xd by omega)]
      decide
theorem twist_ranks (P : List Int) (a b c d : Nat) :
    (rkL P (fourN a b c d) 4 0 = [2, 4, 1, 3] ↔ P.getD c 0 < P.getD a 0 ∧ P.getD a 0 < P.getD d 0 ∧ P.getD d 0 < P.getD b 0) ∧
    (rkL P (fourN a b c d) 4 0 = [3, 1, 4, 2] ↔ P.getD b 0 < P.getD d 0 ∧ P.getD d 0 < P.getD a 0 ∧ P.getD a 0 < P.getD c 0) := by
  rw [rk_vals]
  exact r4_twist _ _ _ _

set_option maxRecDepth 100000 in
set_option maxHeartbeats 4000000 in
theorem isTwist_any {P : List Int} (hP : Sev P) {a b c d : Nat} (h1 : a < b) (h2 : b < c) (h3 : c < d) (h4 : d < 7) (w : World) :
    Calls Try.prog 60 #[.agg (numC P), .agg (numC (fourL a b c d))] w fun e w' => e = .returned (.bool (decide (twiP P a b c d))) ∧ Below w.heap.size w w' := by
  obtain ⟨t1, t2⟩ := twist_ranks P a b c d
  have HRA := Lib.hid (fun (w : World) => ranks_any hP (a := a) (b := b) (c := c) (d := d) (by omega) (by omega) (by omega) (by omega) w)
  have HSP := Lib.hid (perm_size hP.len)
  have HSF := Lib.hid (four_size (show (fourL a b c d).length = 4 from rfl))
  have hrl := rkL_len P (fourN a b c d) 4 0
  have HSR := Lib.hid (four_size hrl)
  have HNR := Lib.hid (numC_one (rkL P (fourN a b c d) 4 0))
  have HZR := Lib.hid (show (#[.int .i64 0, .int .i64 0, .int .i64 0, .int .i64 0] : Array Value).size = (numC (rkL P (fourN a b c d) 4 0)).size by rw [numC_size, hrl]; rfl)
  have HE1 := Lib.hid (fun w => run_eql_nums Try.underlying54 hrl (show ([2, 4, 1, 3] : List Int).length = 4 from rfl) w)
  have HE2 := Lib.hid (fun w => run_eql_nums Try.underlying54 hrl (show ([3, 1, 4, 2] : List Int).length = 4 from rfl) w)
  have hW0 : ((w.alloc (.cells (numC P) 35)).alloc (.cells (numC (fourL a b c d)) 54)).heap[w.heap.size]? = some (.cells (numC P) 35 (0, 0)) := (HeldB.new w 35 (numC P)).alloc _
  have hW1 : ((w.alloc (.cells (numC P) 35)).alloc (.cells (numC (fourL a b c d)) 54)).heap[w.heap.size + 1]? = some (.cells (numC (fourL a b c d)) 54 (0, 0)) := by
    have := HeldB.new (w.alloc (.cells (numC P) 35)) 54 (numC (fourL a b c d))
    rw [World.size_alloc] at this
    exact this
  have hb0 : Below w.heap.size w ((w.alloc (.cells (numC P) 35)).alloc (.cells (numC (fourL a b c d)) 54)) := ((Below.refl _ w).alloc (Nat.le_refl _) _).alloc (by simp) _
  have HTW := Lib.hid (show decide (twiP P a b c d) = (decide (rkL P (fourN a b c d) 4 0 = [2, 4, 1, 3]) || decide (rkL P (fourN a b c d) 4 0 = [3, 1, 4, 2])) by
    rw [Bool.eq_iff_iff, Bool.or_eq_true, decide_eq_true_eq, decide_eq_true_eq, decide_eq_true_eq, t1, t2]; rfl)
  clear t1 t2 hrl hP
  generalize decide (twiP P a b c d) = tw at *
  generalize decide (rkL P (fourN a b c d) 4 0 = [2, 4, 1, 3]) = p1 at *
  generalize decide (rkL P (fourN a b c d) 4 0 = [3, 1, 4, 2]) = p2 at *
  generalize numC (rkL P (fourN a b c d) 4 0) = K at *
  generalize numC P = C at *
  generalize numC (fourL a b c d) = D at *
  have arm : ∀ (q1 q2 : Bool), p1 = q1 → p2 = q2 → Calls Try.prog 60 #[.agg C, .agg D] w fun e w' => e = .returned (.bool tw) ∧ Below w.heap.size w w' := by
    intro q1 q2 hq1 hq2
    rw [hq1] at HE1 HTW
    rw [hq2] at HE2 HTW
    clear hq1 hq2
    cases q1
    · rw [Bool.false_or] at HTW
      cases q2
      all_goals
        go_enter Try.func60, Try.ntmps60
        go_wp2_with (first
          | (refine wpList_load_row rfl 35 _ rfl w.heap.size rfl 35 C (0, 0) _ hW0 Try.underlying35 rfl HSP.out ?_)
          | (refine wpList_load_row rfl 54 _ rfl (w.heap.size + 1) rfl 54 D (0, 0) _ hW1 Try.underlying54 rfl HSF.out ?_)
          | (go_at_call 65; refine (HRA.out _).mono ?_; rintro e w3 ⟨rfl, hb3⟩; have hb4 := (below_step hb0 hb0.size hb3).alloc (below_step hb0 hb0.size hb3).size (.cells K 54); have hK := HeldB.new w3 54 K)
          | (refine wpList_store_new rfl 54 _ _ rfl _ #[.int .i64 0, .int .i64 0, .int .i64 0, .int .i64 0] K rfl rfl rfl HSR.out HZR.out HNR.out ?_)
          | (refine wpList_load_row rfl 54 _ rfl w3.heap.size rfl 54 K (0, 0) _ hK Try.underlying54 rfl HSR.out ?_)
          | (refine wpList_load_row_guard (by rfl) 54 _ rfl w3.heap.size rfl 54 K (0, 0) _ hK Try.underlying54 rfl HSR.out ?_)
          | (refine wpList_cmp (by rfl) .eql 54 _ _ _ rfl _ (guard_nums guard_four _ _ _ _ _ _) (HE1.out _) ?_)
          | (refine wpList_cmp (by rfl) .eql 54 _ _ _ rfl _ (guard_nums guard_four _ _ _ _ _ _) (HE2.out _) ?_))
        go_ret
        exact ⟨by rw [HTW.out]; rfl, hb4⟩
    · rw [Bool.true_or] at HTW
      go_enter Try.func60, Try.ntmps60
      go_wp2_with (first
          | (refine wpList_load_row rfl 35 _ rfl w.heap.size rfl 35 C (0, 0) _ hW0 Try.underlying35 rfl HSP.out ?_)
          | (refine wpList_load_row rfl 54 _ rfl (w.heap.size + 1) rfl 54 D (0, 0) _ hW1 Try.underlying54 rfl HSF.out ?_)
          | (go_at_call 65; refine (HRA.out _).mono ?_; rintro e w3 ⟨rfl, hb3⟩; have hb4 := (below_step hb0 hb0.size hb3).alloc (below_step hb0 hb0.size hb3).size (.cells K 54); have hK := HeldB.new w3 54 K)
          | (refine wpList_store_new rfl 54 _ _ rfl _ #[.int .i64 0, .int .i64 0, .int .i64 0, .int .i64 0] K rfl rfl rfl HSR.out HZR.out HNR.out ?_)
          | (refine wpList_load_row rfl 54 _ rfl w3.heap.size rfl 54 K (0, 0) _ hK Try.underlying54 rfl HSR.out ?_)
          | (refine wpList_cmp (by rfl) .eql 54 _ _ _ rfl _ (guard_nums guard_four _ _ _ _ _ _) (HE1.out _) ?_))
      go_ret
      exact ⟨by rw [HTW.out]; rfl, hb4⟩
  exact arm p1 p2 rfl rfl

end Go.Proofs.Ytkpjlglfhhdcbaa
