
/-
  What of two rooms of a plain list there is. (Plain mathematics.)
-/
import Derived.Test.YteallnkaapdifaaOrdW
import Derived.Test.YteallnkaapdifaaOrdQ
namespace Go.Proofs.Yteallnkaapdifaa

/-- plain plans have no cross -/
theorem noX_of {p : List ByteArray} (h : plainB p = true) : NoX p.length (wideB p) (gridG p) := by
  have hp := plainB_plan h
  have hP := planP_of hp
  have h0 : meetN p 4 = 0 := by
    unfold plainB at h; rw [Bool.and_eq_true, decide_eq_true_eq] at h; exact h.2
  unfold meetN at h0
  rw [if_pos hp, pts_grid hP] at h0
  intro i k i1 i2 k1 k2 ⟨a1, a2, a3, a4⟩
  have hr := hP.rectG
  have hz : metG (gridG p) 4 i k = false := by
    unfold ptsG at h0
    rw [List.sum_eq_zero_iff_forall_eq_nat] at h0
    have := h0 _ (List.mem_map.2 ⟨i, List.mem_range.2 i2, rfl⟩)
    rw [List.countP_eq_zero] at this
    simpa using this k (List.mem_range.2 k2)
  have d1 : gridG p i (k - 1) ≠ gridG p (i - 1) k := fun e => by
    have := rect_two hr (i := i - 1) (j := k) (i' := i) (j' := k - 1) (by omega) k2 i2 (by omega) e
    exact a1 this.1
  have d2 : gridG p i k ≠ gridG p (i - 1) (k - 1) := fun e => by
    have := rect_two hr (i := i - 1) (j := k - 1) (i' := i) (j' := k) (by omega) (by omega) i2 k2 e
    exact a1 this.1.symm
  unfold metG meetG b2n at hz
  rw [decide_eq_true i1, decide_eq_true k1] at hz
  simp only [Bool.true_and, decide_eq_false_iff_not] at hz
  apply hz
  rw [decide_eq_true (show gridG p (i - 1) k ≠ gridG p (i - 1) (k - 1) from fun e => a1 e.symm), decide_eq_true (show gridG p i (k - 1) ≠ gridG p (i - 1) (k - 1) from fun e => a3 e.symm), decide_eq_true d1, decide_eq_true d2,
    decide_eq_true (show gridG p i k ≠ gridG p (i - 1) k from fun e => a4 e.symm), decide_eq_true (show gridG p i k ≠ gridG p i (k - 1) from fun e => a2 e.symm)]
  rfl
/-- leads of plans -/
def pL (p : List ByteArray) (way : Nat) : Nat → Nat → Bool := leadG p.length (wideB p) (gridR p) (gridG p) way
theorem pL_left {p : List ByteArray} {a b : Nat} : pL p 0 a b = true ↔ LL p.length (wideB p) (gridG p) a b := leadG_left (fun _ _ hi hj => gridG_lt hi hj)
theorem pL_above {p : List ByteArray} {a b : Nat} : pL p 1 a b = true ↔ AA p.length (wideB p) (gridG p) a b := leadG_above (fun _ _ hi hj => gridG_lt hi hj)
theorem room_at {p : List ByteArray} {a : Nat} (ha : a < gridR p) : ∃ i j, i < p.length ∧ j < wideB p ∧ gridG p i j = a := room_cell (m := markN p) ha
theorem pL_self {p : List ByteArray} (h : plainB p = true) {a : Nat} (ha : a < gridR p) (way : Nat) (hw : way < 2) : pL p way a a = false := by
  have hr := (planP_of (plainB_plan h)).rectG
  obtain ⟨i, j, hi, hj, rfl⟩ := room_at ha
  rw [Bool.eq_false_iff]
  rcases (show way = 0 ∨ way = 1 by omega) with rfl | rfl
  · rw [Ne, pL_left]
    intro e
    exact Nat.lt_irrefl _ (left_cols hr (noX_of h) hi hj hi hj e)
  · rw [Ne, pL_above]
    intro e
    exact Nat.lt_irrefl _ (above_rows hr (noX_of h) hi hj hi hj e)
theorem pL_some {p : List ByteArray} (h : planB p = true) {a b : Nat} (ha : a < gridR p) (hb : b < gridR p) (hne : a ≠ b) : pL p 0 a b = true ∨ pL p 0 b a = true ∨ pL p 1 a b = true ∨ pL p 1 b a = true := by
  rw [pL_left, pL_left, pL_above, pL_above]
  obtain ⟨i, j, hi, hj, rfl⟩ := room_at ha
  obtain ⟨x, y, hx, hy, rfl⟩ := room_at hb
  exact some_order (planP_of h).rectG hi hj hx hy hne
theorem pL_one {p : List ByteArray} (h : plainB p = true) {a b : Nat} (ha : a < gridR p) (hb : b < gridR p) (hl : pL p 0 a b = true) : pL p 0 b a = false ∧ pL p 1 a b = false ∧ pL p 1 b a = false := by
  have hr := (planP_of (plainB_plan h)).rectG
  have nx := noX_of h
  have hA := room_at ha
  have hB := room_at hb
  rw [pL_left] at hl
  refine ⟨?_, ?_, ?_⟩
  · rw [Bool.eq_false_iff, Ne, pL_left]
    intro e
    obtain ⟨i, j, hi, hj, rfl⟩ := hA
    obtain ⟨x, y, hx, hy, rfl⟩ := hB
    exact Nat.lt_asymm (left_cols hr nx hi hj hx hy hl) (left_cols hr nx hx hy hi hj e)
  · rw [Bool.eq_false_iff, Ne, pL_above]; exact fun e => not_both hr nx hA hB ⟨hl, e⟩
  · rw [Bool.eq_false_iff, Ne, pL_above]; exact fun e => not_cross hr nx hA hB ⟨hl, e⟩
theorem pL_over {p : List ByteArray} (h : plainB p = true) {a b : Nat} (ha : a < gridR p) (hb : b < gridR p) (hl : pL p 1 a b = true) : pL p 1 b a = false ∧ pL p 0 a b = false ∧ pL p 0 b a = false := by
  have hr := (planP_of (plainB_plan h)).rectG
  have nx := noX_of h
  refine ⟨?_, ?_, ?_⟩
  · rw [pL_above] at hl
    rw [Bool.eq_false_iff, Ne, pL_above]
    intro e
    obtain ⟨i, j, hi, hj, rfl⟩ := room_at ha
    obtain ⟨x, y, hx, hy, rfl⟩ := room_at hb
    exact Nat.lt_asymm (above_rows hr nx hi hj hx hy hl) (above_rows hr nx hx hy hi hj e)
  · rw [Bool.eq_false_iff]; intro e; rw [(pL_one h ha hb e).2.1] at hl; cases hl
  · rw [Bool.eq_false_iff]; intro e; rw [(pL_one h hb ha e).2.2] at hl; cases hl
theorem pL_trans {p : List ByteArray} {way a b c : Nat} (hw : way < 2) (h1 : pL p way a b = true) (h2 : pL p way b c = true) : pL p way a c = true := by
  rcases (show way = 0 ∨ way = 1 by omega) with rfl | rfl
  · rw [pL_left] at *; exact Relation.TransGen.trans h1 h2
  · rw [pL_above] at *; exact Relation.TransGen.trans h1 h2

/-- what the program keeps, told by leads -/
theorem ledP_yes {p : List ByteArray} (h : plainB p = true) (way : Nat) (a b : Int) : ledP p way a b = (oRm (gridR p) a && oRm (gridR p) b && pL p way a.toNat b.toNat) := by
  unfold ledP isLd oR oF; rw [if_pos h, if_pos h]; rfl
theorem ledP_no {p : List ByteArray} (h : plainB p = false) (way : Nat) (a b : Int) : ledP p way a b = false := by
  unfold ledP isLd oR oRm; rw [h]
  simp
  omega
theorem ledP_nat {p : List ByteArray} (h : plainB p = true) (way : Nat) {a b : Nat} (ha : a < gridR p) (hb : b < gridR p) : ledP p way (a : Int) (b : Int) = pL p way a b := by
  rw [ledP_yes h, show oRm (gridR p) (a : Int) = true from oRm_iff.2 ⟨by omega, by omega⟩, show oRm (gridR p) (b : Int) = true from oRm_iff.2 ⟨by omega, by omega⟩]
  rfl
theorem ledP_out {p : List ByteArray} {a b : Int} (h : (plainB p && oRm (gridR p) a && oRm (gridR p) b) = false) (way : Nat) : ledP p way a b = false := by
  cases hp : plainB p
  · exact ledP_no hp way a b
  · rw [hp, Bool.true_and] at h
    rw [ledP_yes hp, h, Bool.false_and]
end Go.Proofs.Yteallnkaapdifaa
