
/-
  What the laws of both orders ask. (Plain mathematics.)
-/
import Derived.Test.YtcapagegeomebaaOrdH
import Derived.Test.YtcapagegeomebaaSort
namespace Go.Proofs.Ytcapagegeomebaa

theorem Lin.least {q : Nat → Nat → Bool} {r z : Nat} (L : Lin q r) (hz : z < r) (h : ∀ a, a < r → q a z = false) : (lineN q r r).getD 0 0 = z := by
  have : placeN q r z = 0 := by
    unfold placeN
    rw [List.countP_eq_zero]
    intro a ha
    rw [h a (List.mem_range.1 ha)]; exact Bool.false_ne_true
  have e := L.line hz
  rwa [this] at e
theorem Lin.last {q : Nat → Nat → Bool} {r z : Nat} (L : Lin q r) (hz : z < r) (h : ∀ a, a < r → q z a = false) : (lineN q r r).getD (r - 1) 0 = z := by
  have hk := L.lt hz
  obtain ⟨b1, b2⟩ := L.back (k := r - 1) (by omega)
  by_cases he : (lineN q r r).getD (r - 1) 0 = z
  · exact he
  · exfalso
    rcases L.all _ _ b2 hz he with e | e
    · have := L.mono b2 hz e; omega
    · rw [h _ b2] at e; cases e
theorem Lin.next {q : Nat → Nat → Bool} {r i : Nat} (L : Lin q r) (h1 : 1 ≤ i) (hi : i < r) : q ((lineN q r r).getD (i - 1) 0) ((lineN q r r).getD i 0) = true := by
  obtain ⟨b1, b2⟩ := L.back (k := i) hi
  obtain ⟨c1, c2⟩ := L.back (k := i - 1) (by omega)
  rcases L.all _ _ c2 b2 (fun e => by rw [e] at c1; omega) with e | e
  · exact e
  · have := L.mono b2 c2 e; omega
theorem Lin.perm {q : Nat → Nat → Bool} {r : Nat} (L : Lin q r) : (lineN q r r).Perm (List.range r) := by
  have hl := lineN_len q r r
  have nd : (lineN q r r).Nodup := by
    rw [List.nodup_iff_pairwise_ne, List.pairwise_iff_getElem]
    intro i j hi hj hij e
    have b1 := (L.back (k := i) (by omega)).1
    have b2 := (L.back (k := j) (by omega)).1
    rw [show (lineN q r r).getD i 0 = (lineN q r r)[i] by simp [hi]] at b1
    rw [show (lineN q r r).getD j 0 = (lineN q r r)[j] by simp [hj]] at b2
    rw [e] at b1
    omega
  rw [List.perm_ext_iff_of_nodup nd List.nodup_range]
  intro x
  rw [List.mem_range]
  constructor
  · intro hx
    obtain ⟨i, hi, rfl⟩ := List.getElem_of_mem hx
    have := (L.back (k := i) (by omega)).2
    rwa [show (lineN q r r).getD i 0 = (lineN q r r)[i] by simp [hi]] at this
  · intro hx
    have := L.line hx
    rw [← this]
    have hlt := L.lt hx
    rw [show (lineN q r r).getD (placeN q r x) 0 = (lineN q r r)[placeN q r x]'(by omega) by simp [hl, hlt]]
    exact List.getElem_mem _
theorem ints_sorted (r : Nat) : (intsL (List.range r)).Pairwise (· ≤ ·) := by
  unfold intsL
  rw [List.pairwise_map]
  exact List.pairwise_lt_range.imp (fun h => by omega)
theorem ints_range (r i : Nat) (hi : i < r) : (intsL (List.range r)).getD i 0 = (i : Int) := by simp [intsL, hi]
theorem ints_at (S : List Nat) {i : Nat} (hi : i < S.length) : (intsL S).getD i 0 = ((S.getD i 0 : Nat) : Int) := by simp [intsL, hi]

/-- a cell's letter tells its room -/
theorem letter_room {p : List ByteArray} (hp : planB p = true) {i j : Nat} (hi : i < p.length) (hj : j < wideB p) : ((byteAt p i j).toNat : Int) - 97 = ((gridG p i j : Nat) : Int) ∧ (byteAt p i j).toNat ≤ 122 := by
  have hP := planP_of hp
  obtain ⟨h1, h2⟩ := hP.grid.byte hi hj
  rw [← hP.mark i j hi hj]
  omega
theorem room_zero {p : List ByteArray} (hp : planB p = true) : gridG p 0 0 = 0 := by
  have hP := planP_of hp
  have h1 := hP.grid.h1
  have w1 := hP.grid.w1
  rcases Nat.eq_zero_or_pos (gridG p 0 0) with h | h
  · exact h
  · exfalso
    rw [← hP.mark 0 0 (by omega) (by omega)] at h
    obtain ⟨i, j, _, _, h3, _⟩ := hP.canon 0 0 (by omega) (by omega) 0 h
    omega

/-- what the law of first orders asks -/
theorem first_math {p : List ByteArray} (h : plainB p = true) : (firstL p).length = gridR p ∧ 1 ≤ gridR p ∧ gridR p ≤ 9 ∧ (firstL p).Perm (List.range (gridR p)) ∧ (firstL p).getD 0 0 = 0 ∧
    (firstL p).getD (gridR p - 1) 0 = gridG p (p.length - 1) (wideB p - 1) ∧ (∀ i, 1 ≤ i → i < gridR p → ledP p 0 ((firstL p).getD (i - 1) 0 : Nat) ((firstL p).getD i 0 : Nat) = true ∨ (ledP p 0 ((firstL p).getD (i - 1) 0 : Nat) ((firstL p).getD i 0 : Nat) = false ∧ ledP p 1 ((firstL p).getD (i - 1) 0 : Nat) ((firstL p).getD i 0 : Nat) = true)) := by
  have hp := plainB_plan h
  have hP := planP_of hp
  have hr := hP.rectG
  have nx := noX_of h
  have L := first_lin h
  have h1 := hP.grid.h1
  have w1 := hP.grid.w1
  have hlt : ∀ i j, i < p.length → j < wideB p → gridG p i j < gridR p := fun i j hi hj => gridG_lt hi hj
  have hz0 := hlt 0 0 (by omega) (by omega)
  unfold firstL
  rw [oR_yes h, oF_yes h]
  refine ⟨lineN_len _ _ _, by omega, hP.few, L.perm, ?_, ?_, fun i i1 i2 => ?_⟩
  · have := L.least hz0 (fun a ha => by
      obtain ⟨i, j, hi, hj, rfl⟩ := room_at ha
      rw [Bool.eq_false_iff]
      unfold firstQ
      rw [Ne, Bool.or_eq_true, pL_left, pL_above]
      rintro (e | e)
      · have := left_cols hr nx hi hj (by omega) (by omega) e; omega
      · have := above_rows hr nx hi hj (by omega) (by omega) e; omega)
    rw [this, room_zero hp]
  · exact L.last (hlt _ _ (by omega) (by omega)) (fun a ha => by
      obtain ⟨i, j, hi, hj, rfl⟩ := room_at ha
      rw [Bool.eq_false_iff]
      unfold firstQ
      rw [Ne, Bool.or_eq_true, pL_left, pL_above]
      rintro (e | e)
      · have := left_cols hr nx (by omega) (by omega) hi hj e; omega
      · have := above_rows hr nx (by omega) (by omega) hi hj e; omega)
  · have hn := L.next i1 i2
    have b1 := (L.back (k := i) i2).2
    have b2 := (L.back (k := i - 1) (by omega)).2
    rw [ledP_nat h 0 b2 b1, ledP_nat h 1 b2 b1]
    unfold firstQ at hn
    rw [Bool.or_eq_true] at hn
    rcases hn with e | e
    · exact .inl e
    · refine .inr ⟨?_, e⟩
      exact (pL_over h b2 b1 e).2.1
/-- what the law of second orders asks -/
theorem second_math {p : List ByteArray} (h : plainB p = true) : (secondL p).length = gridR p ∧ (secondL p).Perm (List.range (gridR p)) ∧ (secondL p).getD 0 0 = gridG p (p.length - 1) 0 ∧ (secondL p).getD (gridR p - 1) 0 = gridG p 0 (wideB p - 1) := by
  have hp := plainB_plan h
  have hP := planP_of hp
  have hr := hP.rectG
  have nx := noX_of h
  have L := second_lin h
  have h1 := hP.grid.h1
  have w1 := hP.grid.w1
  have hlt : ∀ i j, i < p.length → j < wideB p → gridG p i j < gridR p := fun i j hi hj => gridG_lt hi hj
  unfold secondL
  rw [oR_yes h, oF_yes h]
  refine ⟨lineN_len _ _ _, L.perm, ?_, ?_⟩
  · exact L.least (hlt _ _ (by omega) (by omega)) (fun a ha => by
      obtain ⟨i, j, hi, hj, rfl⟩ := room_at ha
      rw [Bool.eq_false_iff]
      unfold secondQ
      rw [Ne, Bool.or_eq_true, pL_left, pL_above]
      rintro (e | e)
      · have := left_cols hr nx hi hj (by omega) (by omega) e; omega
      · have := above_rows hr nx (by omega) (by omega) hi hj e; omega)
  · exact L.last (hlt _ _ (by omega) (by omega)) (fun a ha => by
      obtain ⟨i, j, hi, hj, rfl⟩ := room_at ha
      rw [Bool.eq_false_iff]
      unfold secondQ
      rw [Ne, Bool.or_eq_true, pL_left, pL_above]
      rintro (e | e)
      · have := left_cols hr nx (by omega) (by omega) hi hj e; omega
      · have := above_rows hr nx hi hj (by omega) (by omega) e; omega)
end Go.Proofs.Ytcapagegeomebaa
