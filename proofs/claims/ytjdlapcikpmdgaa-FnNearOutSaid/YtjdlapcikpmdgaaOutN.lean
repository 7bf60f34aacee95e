
/-
  Rooms at a side are neighbours in turn. (Plain mathematics.)
-/
import Derived.Test.YtjdlapcikpmdgaaNearQ
import Derived.Test.YtjdlapcikpmdgaaOutI
namespace Go.Proofs.Ytjdlapcikpmdgaa
open Go.RowKit

theorem corner_zero {p : List ByteArray} (hp : planB p = true) : gridG p 0 0 = 0 := by
  have hP := planP_of hp
  have h1 := hP.grid.h1
  have w1 := hP.grid.w1
  rcases Nat.eq_zero_or_pos (gridG p 0 0) with h | h
  · exact h
  · exfalso
    rw [← hP.mark 0 0 (by omega) (by omega)] at h
    obtain ⟨i, j, _, _, h3, _⟩ := hP.canon 0 0 (by omega) (by omega) 0 h
    omega
theorem cellsN_row (g : Nat → Nat → Nat) (r c wi : Nat) : cellsR g r c wi 1 = (List.range wi).map fun j => ((g r (c + j) : Nat) : Int) := by
  rw [show (1 : Nat) = 0 + 1 from rfl, cellsR_succ]
  unfold cellsR
  simp
theorem cellsN_col (g : Nat → Nat → Nat) (r c : Nat) : ∀ h, cellsR g r c 1 h = (List.range h).map fun k => ((g (r + k) c : Nat) : Int)
  | 0 => rfl
  | h + 1 => by
    rw [cellsR_succ, cellsN_col g r c h]
    simp [List.range_succ]
/-- what the law of rooms at a side asks -/
theorem outs_math {p : List ByteArray} {s : Int} (h : outOk p s = true) : planB p = true ∧ 0 < (outL p s).length ∧ (outL p s).length ≤ 6 ∧ (∀ i, i + 1 < (outL p s).length → nearIs p ((outL p s).getD i 0) ((outL p s).getD (i + 1) 0) = true) ∧ (s = 0 ∨ s = 3 → (outL p s).getD 0 0 = 0) := by
  have e : outL p s = compactL (edgeL p s) := by unfold outL; rw [if_pos h]
  have hok := h
  unfold outOk isSide at h
  simp only [Bool.and_eq_true, Bool.or_eq_true, decide_eq_true_eq] at h
  obtain ⟨hp, hs⟩ := h
  have hP := planP_of hp
  have h1 := hP.grid.h1; have w1 := hP.grid.w1; have h6 := hP.grid.h6; have w6 := hP.grid.w6
  have giv : ∀ i j, i < p.length → j < wideB p → givenB p ((gridG p i j : Nat) : Int) = true := fun i j hi hj => by
    rw [given_isRm, hp, Bool.true_and, isRm_iff]; have := grid_room hp hi hj; omega
  have nr : ∀ i j, i < p.length → j + 1 < wideB p → gridG p i j ≠ gridG p i (j + 1) → nearIs p ((gridG p i j : Nat) : Int) ((gridG p i (j + 1) : Nat) : Int) = true := fun i j hi hj hne => by
    unfold nearIs; rw [giv _ _ hi (by omega), giv _ _ hi hj]; simpa using near_row hp hi hj hne
  have nc : ∀ i j, i + 1 < p.length → j < wideB p → gridG p i j ≠ gridG p (i + 1) j → nearIs p ((gridG p i j : Nat) : Int) ((gridG p (i + 1) j : Nat) : Int) = true := fun i j hi hj hne => by
    unfold nearIs; rw [giv _ _ (by omega) hj, giv _ _ hi hj]; simpa using near_col hp hi hj hne
  have row : ∀ r, r < p.length → edgeL p s = (List.range (wideB p)).map (fun j => ((gridG p r j : Nat) : Int)) → 0 < (outL p s).length ∧ (outL p s).length ≤ 6 ∧ (outL p s).getD 0 0 = ((gridG p r 0 : Nat) : Int) ∧ ∀ i, i + 1 < (outL p s).length → nearIs p ((outL p s).getD i 0) ((outL p s).getD (i + 1) 0) = true := fun r hr er => by
    rw [e, er]
    have hf := compact_first (fun j => ((gridG p r j : Nat) : Int)) (wideB p) w1
    have hl := compactL_len ((List.range (wideB p)).map fun j => ((gridG p r j : Nat) : Int))
    rw [List.length_map, List.length_range] at hl
    refine ⟨hf.1, by omega, hf.2, fun i hi => ?_⟩
    obtain ⟨t, t1, t2, t3, t4⟩ := compact_pairs (fun j => ((gridG p r j : Nat) : Int)) (wideB p) i hi
    rw [← t2, ← t3]
    exact nr r t hr t1 fun e => t4 (by show ((gridG p r t : Nat) : Int) = ((gridG p r (t + 1) : Nat) : Int); rw [e])
  have col : ∀ c, c < wideB p → edgeL p s = (List.range p.length).map (fun k => ((gridG p k c : Nat) : Int)) → 0 < (outL p s).length ∧ (outL p s).length ≤ 6 ∧ (outL p s).getD 0 0 = ((gridG p 0 c : Nat) : Int) ∧ ∀ i, i + 1 < (outL p s).length → nearIs p ((outL p s).getD i 0) ((outL p s).getD (i + 1) 0) = true := fun c hc er => by
    rw [e, er]
    have hf := compact_first (fun k => ((gridG p k c : Nat) : Int)) p.length h1
    have hl := compactL_len ((List.range p.length).map fun k => ((gridG p k c : Nat) : Int))
    rw [List.length_map, List.length_range] at hl
    refine ⟨hf.1, by omega, hf.2, fun i hi => ?_⟩
    obtain ⟨t, t1, t2, t3, t4⟩ := compact_pairs (fun k => ((gridG p k c : Nat) : Int)) p.length i hi
    rw [← t2, ← t3]
    exact nc t c t1 hc fun e => t4 (by show ((gridG p t c : Nat) : Int) = ((gridG p (t + 1) c : Nat) : Int); rw [e])
  have zero : ((gridG p 0 0 : Nat) : Int) = 0 := by rw [corner_zero hp]; rfl
  rcases hs with ((rfl | rfl) | rfl) | rfl
  · obtain ⟨a1, a2, a3, a4⟩ := row 0 (by omega) (by
      unfold edgeL edgeN
      simp only [if_true]
      rw [cellsN_row]; simp)
    exact ⟨hp, a1, a2, a4, fun _ => by rw [a3, zero]⟩
  · obtain ⟨a1, a2, a3, a4⟩ := col (wideB p - 1) (by omega) (by
      unfold edgeL edgeN
      rw [if_neg (by decide), if_pos rfl]
      show cellsR _ 0 (wideB p - 1) 1 p.length = _
      rw [cellsN_col]; simp)
    exact ⟨hp, a1, a2, a4, fun hx => by rcases hx with hx | hx <;> exact absurd hx (by decide)⟩
  · obtain ⟨a1, a2, a3, a4⟩ := row (p.length - 1) (by omega) (by
      unfold edgeL edgeN
      rw [if_neg (by decide), if_neg (by decide), if_pos rfl]
      show cellsR _ (p.length - 1) 0 (wideB p) 1 = _
      rw [cellsN_row]; simp)
    exact ⟨hp, a1, a2, a4, fun hx => by rcases hx with hx | hx <;> exact absurd hx (by decide)⟩
  · obtain ⟨a1, a2, a3, a4⟩ := col 0 (by omega) (by
      unfold edgeL edgeN
      rw [if_neg (by decide), if_neg (by decide), if_neg (by decide)]
      show cellsR _ 0 0 1 p.length = _
      rw [cellsN_col]; simp)
    exact ⟨hp, a1, a2, a4, fun _ => by rw [a3, zero]⟩
end Go.Proofs.Ytjdlapcikpmdgaa
