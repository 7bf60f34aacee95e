
/-
  The model's first and second orders. (Walks.)
-/
import Derived.Test.YteallnkaapdifaaOrdA
namespace Go.Proofs.Yteallnkaapdifaa
open Go.RowKit

theorem oR_no {p : List ByteArray} (h : plainB p = false) : oR p = 0 := by unfold oR; rw [h]; rfl
theorem firstL_no {p : List ByteArray} (h : plainB p = false) : firstL p = [] := List.eq_nil_of_length_eq_zero (by rw [firstL_len, oR_no h])
theorem secondL_no {p : List ByteArray} (h : plainB p = false) : secondL p = [] := List.eq_nil_of_length_eq_zero (by rw [secondL_len, oR_no h])
theorem nums_none (w : World) : (w.alloc (.cells #[] 3)).ownsRow w.heap.size 3 1 (.slice (some ⟨w.heap.size, 0, none⟩) 0 0) 0 (([] : List Int).map (Value.int .i64)) := World.ownsRow_made w #[] 0 (Nat.le_refl _) (Nat.zero_le _) rfl
theorem specOrderFirst_any (ao : Option Addr) (cap : Nat) (p : List ByteArray) (w : World) (hl : p.length ≤ 1048576) (hs : ∀ s ∈ p, s.size ≤ 1048576) (hc : CellsAt w ao (p.map Value.string)) :
    Calls Try.prog 20 #[.slice ao p.length cap] w fun e w' => NumsRet w.heap.size (intsL (firstL p)) (plainB p) e w' ∧ Below w.heap.size w w' := by
  have HP := Lib.hid (fun w hc => l5Plain_any ao cap p w hl hs hc)
  cases hpl : plainB p
  · rw [hpl] at HP
    rw [firstL_no hpl]
    go_enter Try.func20, Try.ntmps20
    go_wp2_with (go_at_call 38; refine (HP.out _ hc).mono ?_; rintro e w1 ⟨rfl, hb1⟩)
    refine bodyPost_ret (v := .tuple #[.slice (some ⟨w1.heap.size, 0, none⟩) 0 0, .bool false]) (by simp [results, Try.results20, go_sem]) rfl ⟨⟨_, _, rfl, ownsRow_base (nums_none w1) hb1.size⟩, below_step hb1 hb1.size (below_alloc _ _)⟩
  · have HS := Lib.hid (fun w hc => l5SortedFirst_any ao cap p w hl hs hpl hc)
    rw [hpl] at HP
    have HL9 := Lib.hid (show (firstL p).length ≤ 9 by rw [firstL_len]; exact oR_le p)
    generalize firstL p = S at *
    go_enter Try.func20, Try.ntmps20
    go_wp2_with (first
      | (go_at_call 38; refine (HP.out _ hc).mono ?_; rintro e w1 ⟨rfl, hb1⟩; have hc1 := hc.below hb1)
      | (go_at_call 39; refine (HS.out _ hc1).mono ?_; rintro e w2 ⟨⟨gp, hgp, rfl, hP⟩, hb2⟩))
    refine bodyPost_ret (v := .tuple #[.slice (some ⟨gp, 0, none⟩) S.length S.length, .bool true]) (by simp [results, Try.results20, go_sem]) rfl ⟨nums_of hP (by have := hb1.size; omega) HL9.out, below_step hb1 hb1.size hb2⟩

theorem specOrderSecond_any (ao : Option Addr) (cap : Nat) (p : List ByteArray) (w : World) (hl : p.length ≤ 1048576) (hs : ∀ s ∈ p, s.size ≤ 1048576) (hc : CellsAt w ao (p.map Value.string)) :
    Calls Try.prog 26 #[.slice ao p.length cap] w fun e w' => NumsRet w.heap.size (intsL (secondL p)) (plainB p) e w' ∧ Below w.heap.size w w' := by
  have HP := Lib.hid (fun w hc => l5Plain_any ao cap p w hl hs hc)
  cases hpl : plainB p
  · rw [hpl] at HP
    rw [secondL_no hpl]
    go_enter Try.func26, Try.ntmps26
    go_wp2_with (go_at_call 38; refine (HP.out _ hc).mono ?_; rintro e w1 ⟨rfl, hb1⟩)
    refine bodyPost_ret (v := .tuple #[.slice (some ⟨w1.heap.size, 0, none⟩) 0 0, .bool false]) (by simp [results, Try.results26, go_sem]) rfl ⟨⟨_, _, rfl, ownsRow_base (nums_none w1) hb1.size⟩, below_step hb1 hb1.size (below_alloc _ _)⟩
  · have HS := Lib.hid (fun w hc => l5SortedSecond_any ao cap p w hl hs hpl hc)
    rw [hpl] at HP
    have HL9 := Lib.hid (show (secondL p).length ≤ 9 by rw [secondL_len]; exact oR_le p)
    generalize secondL p = S at *
    go_enter Try.func26, Try.ntmps26
    go_wp2_with (first
      | (go_at_call 38; refine (HP.out _ hc).mono ?_; rintro e w1 ⟨rfl, hb1⟩; have hc1 := hc.below hb1)
      | (go_at_call 39; refine (HS.out _ hc1).mono ?_; rintro e w2 ⟨⟨gp, hgp, rfl, hP⟩, hb2⟩))
    refine bodyPost_ret (v := .tuple #[.slice (some ⟨gp, 0, none⟩) S.length S.length, .bool true]) (by simp [results, Try.results26, go_sem]) rfl ⟨nums_of hP (by have := hb1.size; omega) HL9.out, below_step hb1 hb1.size hb2⟩
end Go.Proofs.Yteallnkaapdifaa
