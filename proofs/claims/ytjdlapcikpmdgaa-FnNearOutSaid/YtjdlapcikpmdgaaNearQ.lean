
/-
  Rooms of both sides of a wall. (Plain mathematics.)
-/
import Derived.Test.YtjdlapcikpmdgaaNearb
namespace Go.Proofs.Ytjdlapcikpmdgaa
open Go.RowKit

/-- neighbours in a list without repeats beside each other are neighbours in the list -/
theorem compact_pairs (f : Nat → Int) : ∀ n i, i + 1 < (compactL ((List.range n).map f)).length → ∃ t, t + 1 < n ∧ f t = (compactL ((List.range n).map f)).getD i 0 ∧ f (t + 1) = (compactL ((List.range n).map f)).getD (i + 1) 0 ∧ f t ≠ f (t + 1)
  | 0, i, h => by simp [compactL] at h
  | n + 1, i, h => by
    rw [List.range_succ, List.map_append, List.map_singleton, compactL_snoc] at h ⊢
    have ih := compact_pairs f n
    unfold putL at h ⊢
    by_cases hl : (compactL ((List.range n).map f)).getLast? = some (f n)
    · rw [if_pos hl] at h ⊢
      obtain ⟨t, t1, t2⟩ := ih i h
      exact ⟨t, by omega, t2⟩
    · rw [if_neg hl] at h ⊢
      rw [List.length_append, List.length_singleton] at h
      by_cases hi : i + 1 < (compactL ((List.range n).map f)).length
      · obtain ⟨t, t1, t2, t3, t4⟩ := ih i hi
        exact ⟨t, by omega, by rw [getD_appL _ (by omega)]; exact t2, by rw [getD_appL _ hi]; exact t3, t4⟩
      · have hlen : (compactL ((List.range n).map f)).length = i + 1 := by omega
        have hn : 0 < n := by
          have := compactL_len ((List.range n).map f)
          rw [List.length_map, List.length_range] at this
          omega
        have hlast := compactL_last ((List.range n).map f)
        have e1 : (compactL ((List.range n).map f)).getLast? = some (f (n - 1)) := by
          rw [hlast]
          obtain ⟨m, rfl⟩ : ∃ m, n = m + 1 := ⟨n - 1, by omega⟩
          rw [List.range_succ, List.map_append]; simp
        have e2 : (compactL ((List.range n).map f)).getD i 0 = f (n - 1) := by
          rw [List.getLast?_eq_getElem?, hlen, Nat.add_sub_cancel] at e1
          rw [List.getD_eq_getElem?_getD, e1]; rfl
        refine ⟨n - 1, by omega, ?_, ?_, ?_⟩
        · rw [getD_appL _ (by omega), e2]
        · rw [show n - 1 + 1 = n by omega, getD_appR _ (by omega), hlen, Nat.sub_self]; rfl
        · rw [show n - 1 + 1 = n by omega]
          intro e; rw [← e] at hl; exact hl e1
theorem compact_mem (f : Nat → Int) : ∀ n x, x ∈ compactL ((List.range n).map f) → ∃ t, t < n ∧ f t = x
  | 0, x, h => by simp [compactL] at h
  | n + 1, x, h => by
    rw [List.range_succ, List.map_append, List.map_singleton, compactL_snoc] at h
    unfold putL at h
    split at h
    · obtain ⟨t, t1, t2⟩ := compact_mem f n x h; exact ⟨t, by omega, t2⟩
    · rw [List.mem_append, List.mem_singleton] at h
      rcases h with h | rfl
      · obtain ⟨t, t1, t2⟩ := compact_mem f n x h; exact ⟨t, by omega, t2⟩
      · exact ⟨n, by omega, rfl⟩
theorem compact_first (f : Nat → Int) : ∀ n, 0 < n → 0 < (compactL ((List.range n).map f)).length ∧ (compactL ((List.range n).map f)).getD 0 0 = f 0
  | 0, h => by omega
  | 1, _ => by simp [compactL, putL]
  | n + 2, _ => by
    have ih := compact_first f (n + 1) (by omega)
    rw [List.range_succ, List.map_append, List.map_singleton, compactL_snoc]
    unfold putL
    split
    · exact ih
    · rw [List.length_append, getD_appL _ ih.1]
      exact ⟨by omega, ih.2⟩

/-- what the law of sides asks of a wall -/
theorem sides_math {p : List ByteArray} {n : Int} (h : wallIn p n = true) : planB p = true ∧ 0 < (sideOrA p n).length ∧ 0 < (sideOrB p n).length ∧ (sideOrA p n).length ≤ 6 ∧ (sideOrB p n).length ≤ 6 ∧ nearIs p ((sideOrA p n).getD 0 0) ((sideOrB p n).getD 0 0) = true ∧
    (∀ i k, i < (sideOrA p n).length → k < (sideOrB p n).length → ((sideOrA p n).getD i 0 == (sideOrB p n).getD k 0) = false) ∧ (∀ i, i + 1 < (sideOrA p n).length → nearIs p ((sideOrA p n).getD i 0) ((sideOrA p n).getD (i + 1) 0) = true) := by
  have hp : planB p = true := by
    cases hp : planB p
    · unfold wallIn at h; rw [wallsP_no hp, Bool.and_eq_true, decide_eq_true_eq, decide_eq_true_eq] at h; simp at h; omega
    · rfl
  have hP := planP_of hp
  unfold sideOrA sideOrB
  rw [if_pos h, if_pos h]
  unfold wallIn at h
  rw [Bool.and_eq_true, decide_eq_true_eq, decide_eq_true_eq] at h
  have hmem : (wallsP p).getD n.toNat zeroWl ∈ wallsP p := getD_mem _ (by omega)
  have h4 := wallsP_mem hmem
  generalize (wallsP p).getD n.toNat zeroWl = X at *
  have e4 : planG p = gridG p := by unfold planG; rw [if_pos hp]
  rw [e4]
  rw [wallsP_yes hp] at hmem
  obtain ⟨m1, m2, m3, m4, m5, m6⟩ := wallsG_mem hmem
  have giv : ∀ i j, i < p.length → j < wideB p → givenB p ((gridG p i j : Nat) : Int) = true := fun i j hi hj => by
    rw [given_isRm, hp, Bool.true_and, isRm_iff]; have := grid_room hp hi hj; omega
  have nr : ∀ i j, i < p.length → j + 1 < wideB p → gridG p i j ≠ gridG p i (j + 1) → nearIs p ((gridG p i j : Nat) : Int) ((gridG p i (j + 1) : Nat) : Int) = true := fun i j hi hj hne => by
    unfold nearIs; rw [giv _ _ hi (by omega), giv _ _ hi hj]; simpa using near_row hp hi hj hne
  have nc : ∀ i j, i + 1 < p.length → j < wideB p → gridG p i j ≠ gridG p (i + 1) j → nearIs p ((gridG p i j : Nat) : Int) ((gridG p (i + 1) j : Nat) : Int) = true := fun i j hi hj hne => by
    unfold nearIs; rw [giv _ _ (by omega) hj, giv _ _ hi hj]; simpa using near_col hp hi hj hne
  obtain ⟨f1, f2⟩ := compact_first (fun s => ((sideA (gridG p) X.way X.line (X.first + s) : Nat) : Int)) X.long m4
  obtain ⟨g1, g2⟩ := compact_first (fun s => ((sideB (gridG p) X.way X.line (X.first + s) : Nat) : Int)) X.long m4
  have k1 := compactL_len (cellsA (gridG p) X X.long)
  have k2 := compactL_len (cellsB' (gridG p) X X.long)
  unfold cellsA cellsB' at *
  rw [List.length_map, List.length_range] at k1 k2
  have par : ∀ s, s < X.long → sideA (gridG p) X.way X.line (X.first + s) ≠ sideB (gridG p) X.way X.line (X.first + s) := fun s hs => by
    have h3 := m6 (X.first + s) (by omega) (by omega)
    unfold wayF upF lvF at h3
    unfold sideA sideB
    rcases (show X.way = 0 ∨ X.way = 1 by omega) with hw0 | hw0
    · rw [hw0] at h3 ⊢
      simp only [if_true] at h3 ⊢
      rw [Bool.and_eq_true, decide_eq_true_eq, decide_eq_true_eq] at h3
      exact h3.2
    · rw [hw0] at h3 ⊢
      simp only [Nat.one_ne_zero, if_false] at h3 ⊢
      rw [Bool.and_eq_true, decide_eq_true_eq, decide_eq_true_eq] at h3
      exact h3.2
  -- a room on both sides would have both cells beside one of its cells
  have rect : ∀ s t, s < X.long → t < X.long → sideA (gridG p) X.way X.line (X.first + s) ≠ sideB (gridG p) X.way X.line (X.first + t) := fun s t hs ht he => by
    have hps := par s hs
    obtain ⟨_, hbox⟩ := hP.boxes
    unfold acrossN at m3
    unfold alongN at m5
    unfold sideA sideB at he hps
    rcases (show X.way = 0 ∨ X.way = 1 by omega) with hw0 | hw0
    · rw [hw0] at he hps m3 m5
      simp only [if_true] at he hps m3 m5
      obtain ⟨x, _, hx⟩ := hbox _ (grid_room hp (i := X.first + s) (j := X.line - 1) (by omega) (by omega))
      obtain ⟨_, _, _, x3, x4, x5⟩ := hx
      have q1 := (x5 (X.first + s) (X.line - 1) (by omega) (by omega)).1 (hP.mark _ _ (by omega) (by omega))
      have q2 := (x5 (X.first + t) X.line (by omega) (by omega)).1 (by rw [hP.mark _ _ (by omega) (by omega), ← he])
      have q3 := (x5 (X.first + s) X.line (by omega) (by omega)).2 (by unfold InR at q1 q2 ⊢; omega)
      rw [hP.mark _ _ (by omega) (by omega)] at q3
      exact hps q3.symm
    · rw [hw0] at he hps m3 m5
      simp only [Nat.one_ne_zero, if_false] at he hps m3 m5
      obtain ⟨x, _, hx⟩ := hbox _ (grid_room hp (i := X.line - 1) (j := X.first + s) (by omega) (by omega))
      obtain ⟨_, _, _, x3, x4, x5⟩ := hx
      have q1 := (x5 (X.line - 1) (X.first + s) (by omega) (by omega)).1 (hP.mark _ _ (by omega) (by omega))
      have q2 := (x5 X.line (X.first + t) (by omega) (by omega)).1 (by rw [hP.mark _ _ (by omega) (by omega), ← he])
      have q3 := (x5 X.line (X.first + s) (by omega) (by omega)).2 (by unfold InR at q1 q2 ⊢; omega)
      rw [hP.mark _ _ (by omega) (by omega)] at q3
      exact hps q3.symm
  refine ⟨hp, f1, g1, by omega, by omega, ?_, fun i k hi hk => ?_, fun i hi => ?_⟩
  · rw [f2, g2]
    have := par 0 (by omega)
    unfold acrossN at m3
    unfold alongN at m5
    unfold sideA sideB at this ⊢
    rcases (show X.way = 0 ∨ X.way = 1 by omega) with hw0 | hw0
    · rw [hw0] at this m3 m5 ⊢
      simp only [if_true] at this m3 m5 ⊢
      have := nr (X.first + 0) (X.line - 1) (by omega) (by omega) (by rw [show X.line - 1 + 1 = X.line by omega]; exact this)
      rwa [show X.line - 1 + 1 = X.line by omega] at this
    · rw [hw0] at this m3 m5 ⊢
      simp only [Nat.one_ne_zero, if_false] at this m3 m5 ⊢
      have := nc (X.line - 1) (X.first + 0) (by omega) (by omega) (by rw [show X.line - 1 + 1 = X.line by omega]; exact this)
      rwa [show X.line - 1 + 1 = X.line by omega] at this
  · rw [beq_eq_false_iff_ne]
    obtain ⟨s, hs, e1⟩ := compact_mem _ _ _ (getD_mem 0 hi)
    obtain ⟨t, ht, e2⟩ := compact_mem _ _ _ (getD_mem 0 hk)
    rw [← e1, ← e2]
    have := rect s t hs ht
    omega
  · obtain ⟨t, ht, e1, e2, e3⟩ := compact_pairs _ _ _ hi
    rw [← e1, ← e2]
    unfold acrossN at m3
    unfold alongN at m5
    unfold sideA at e3 ⊢
    rcases (show X.way = 0 ∨ X.way = 1 by omega) with hw0 | hw0
    · rw [hw0] at e3 m3 m5 ⊢
      simp only [if_true] at e3 m3 m5 ⊢
      have := nc (X.first + t) (X.line - 1) (by omega) (by omega) (by rw [show X.first + t + 1 = X.first + (t + 1) by omega]; omega)
      rwa [show X.first + t + 1 = X.first + (t + 1) by omega] at this
    · rw [hw0] at e3 m3 m5 ⊢
      simp only [Nat.one_ne_zero, if_false] at e3 m3 m5 ⊢
      have := nr (X.line - 1) (X.first + t) (by omega) (by omega) (by rw [show X.first + t + 1 = X.first + (t + 1) by omega]; omega)
      rwa [show X.first + t + 1 = X.first + (t + 1) by omega] at this

end Go.Proofs.Ytjdlapcikpmdgaa
