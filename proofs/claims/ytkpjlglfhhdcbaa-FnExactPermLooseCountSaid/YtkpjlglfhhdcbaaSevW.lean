
/-
  The program's permutations: four places that show that one is not fair; the places told one by one. (Walks.)
-/
import Derived.Test.YtkpjlglfhhdcbaaSevL
import Derived.Test.YtkpjlglfhhdcbaaSevI
namespace Go.Proofs.Ytkpjlglfhhdcbaa
open Go.RowKit

set_option maxRecDepth 100000 in
set_option maxHeartbeats 4000000 in
theorem isBreak_any {P : List Int} (hP : Sev P) {a b c d : Nat} (h1 : a < b) (h2 : b < c) (h3 : c < d) (h4 : d < 7) (w : World) :
    Calls Try.prog 59 #[.agg (numC P), .agg (numC (fourL a b c d))] w fun e w' => e = .returned (.bool (decide (c = b + 1) && decide (twiP P a b c d))) ∧ Below w.heap.size w w' := by
  have HTW := Lib.hid (fun (w : World) => isTwist_any hP h1 h2 h3 h4 w)
  have HSP := Lib.hid (perm_size hP.len)
  have HSF := Lib.hid (four_size (show (fourL a b c d).length = 4 from rfl))
  have hK1 : HeldB ((w.alloc (.cells (numC P) 35)).alloc (.cells (numC (fourL a b c d)) 54)) (w.heap.size + 1) 54 (numC (fourL a b c d)) := by
    have := HeldB.new (w.alloc (.cells (numC P) 35)) 54 (numC (fourL a b c d))
    rw [World.size_alloc] at this
    exact this
  have hW0 : ((w.alloc (.cells (numC P) 35)).alloc (.cells (numC (fourL a b c d)) 54)).heap[w.heap.size]? = some (.cells (numC P) 35 (0, 0)) := (HeldB.new w 35 (numC P)).alloc _
  have hW1 : ((w.alloc (.cells (numC P) 35)).alloc (.cells (numC (fourL a b c d)) 54)).heap[w.heap.size + 1]? = some (.cells (numC (fourL a b c d)) 54 (0, 0)) := hK1
  have hb0 : Below w.heap.size w ((w.alloc (.cells (numC P) 35)).alloc (.cells (numC (fourL a b c d)) 54)) := ((Below.refl _ w).alloc (Nat.le_refl _) _).alloc (by simp) _
  have k1 : ((w.alloc (.cells (numC P) 35)).alloc (.cells (numC (fourL a b c d)) 54)).cell? ⟨w.heap.size + 1, 1, none⟩ = some (.int .i64 (b : Int)) := (hK1.cell 1).trans (numC_at (L := fourL a b c d) (by unfold fourL; simp))
  have k2 : ((w.alloc (.cells (numC P) 35)).alloc (.cells (numC (fourL a b c d)) 54)).cell? ⟨w.heap.size + 1, 2, none⟩ = some (.int .i64 (c : Int)) := (hK1.cell 2).trans (numC_at (L := fourL a b c d) (by unfold fourL; simp))
  clear hK1 hP
  generalize decide (twiP P a b c d) = tw at *
  generalize numC P = C at *
  generalize numC (fourL a b c d) = D at *
  by_cases hc : c = b + 1
  · have hbe : ((c : Int) == (b : Int) + 1) = true := by rw [beq_iff_eq]; omega
    rw [decide_eq_true hc, Bool.true_and]
    have hb7 : (b : Int) < 7 := by omega
    clear hc
    go_enter Try.func59, Try.ntmps59
    go_wp2_with (first
      | (refine wpList_load_row_guard (by rfl) 35 _ rfl w.heap.size rfl 35 C (0, 0) _ hW0 Try.underlying35 rfl HSP.out ?_)
      | (refine wpList_load_row_guard (by rfl) 54 _ rfl (w.heap.size + 1) rfl 54 D (0, 0) _ hW1 Try.underlying54 rfl HSF.out ?_)
      | (go_at_call 60; refine (HTW.out _).mono ?_; rintro e w3 ⟨rfl, hb3⟩; have hb4 := below_step hb0 hb0.size hb3))
    go_ret
    exact ⟨rfl, hb4⟩
  · have hbe : ((c : Int) == (b : Int) + 1) = false := by rw [beq_eq_false_iff_ne]; omega
    rw [decide_eq_false hc, Bool.false_and]
    have hb7 : (b : Int) < 7 := by omega
    clear hc
    go_enter Try.func59, Try.ntmps59
    go_wp2
    go_ret
    exact ⟨rfl, hb0⟩

set_option maxRecDepth 100000 in
set_option maxHeartbeats 2000000 in
theorem fours_any {l : List Int} (h : Low l) (w : World) :
    Calls Try.prog 58 #[.agg (numC (padL l))] w fun e w' => ∃ B, e = .returned (.func (.func 64) #[] #[.pointer (some ⟨B, 0, none⟩)]) ∧ w.heap.size ≤ B ∧ HeldB w' B 3 #[.int .i64 (l.length : Int)] ∧ Below w.heap.size w w' := by
  have HM := Lib.hid (fun w => many_any h w)
  have HSP := Lib.hid (perm_size (padL_len h.len))
  have hW0 : (w.alloc (.cells (numC (padL l)) 35)).heap[w.heap.size]? = some (.cells (numC (padL l)) 35 (0, 0)) := HeldB.new w 35 (numC (padL l))
  have hb0 := below_alloc w (.cells (numC (padL l)) 35)
  generalize numC (padL l) = C at *
  go_enter Try.func58, Try.ntmps58
  go_wp2_with (first
    | (refine wpList_load_row rfl 35 _ rfl w.heap.size rfl 35 C (0, 0) _ hW0 Try.underlying35 rfl HSP.out ?_)
    | (go_at_call 62; refine (HM.out _).mono ?_; rintro e w1 ⟨rfl, hb1⟩; have hb2 := below_step hb0 hb0.size hb1))
  go_ret
  exact ⟨_, rfl, hb2.size, HeldB.new _ _ _, hb2.alloc hb2.size _⟩

end Go.Proofs.Ytkpjlglfhhdcbaa
