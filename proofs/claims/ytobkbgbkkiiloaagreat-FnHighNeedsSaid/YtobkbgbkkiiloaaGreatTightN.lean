
/-
  Plans made tight: the rows and columns that are kept, and that what is tight stays as it is. (Mathematics.)
-/
import Derived.Test.YtobkbgbkkiiloaaGreatTightM
import Derived.Test.YtobkbgbkkiiloaaGreatIs
namespace Go.Proofs.YtobkbgbkkiiloaaGreat
open Go.RowKit

theorem nthK_kept {same : Nat → Bool} {n t : Nat} (h : t < (keepL same n).length) : nthK same n t = 0 ∨ same (nthK same n t) = false := by
  have h1 : nthK same n t ∈ keepL same n := getD_mem (0 : Nat) h
  unfold keepL at h1
  rw [List.mem_filter] at h1
  have h2 := h1.2
  rw [Bool.or_eq_true, beq_iff_eq, Bool.not_eq_true'] at h2
  exact h2
theorem nthK_prev {same : Nat → Bool} {n t : Nat} (h1 : 1 ≤ t) (h : t < (keepL same n).length) : ∀ u, nthK same n (t - 1) < u → u ≤ nthK same n t - 1 → same u = true := by
  have hm := nthK_mono (same := same) (n := n) (show t - 1 < t by omega) h
  have hlt := nthK_lt h
  obtain ⟨t', ht', hle, hall⟩ := nthK_rep (same := same) (n := n) (nthK same n t - 1) (by omega)
  have h2 : t' < t := by
    rcases Nat.lt_or_ge t' t with a | a
    · exact a
    · exfalso
      rcases Nat.lt_or_ge t t' with b | b
      · have h9 := nthK_mono (same := same) (n := n) b ht'; omega
      · obtain rfl : t' = t := by omega
        omega
  have h3 : t' = t - 1 := by
    rcases Nat.lt_or_ge t' (t - 1) with a | a
    · exfalso
      have hm2 := nthK_mono (same := same) (n := n) a (by omega)
      have hs := hall (nthK same n (t - 1)) hm2 (by omega)
      rcases nthK_kept (same := same) (n := n) (t := t - 1) (by omega) with b | b
      · omega
      · rw [b] at hs; cases hs
    · omega
  subst h3
  exact hall
theorem Repeats.prev_row {g : Nat → Nat → Nat} {sr sc : Nat → Bool} {h wd : Nat} (hr : Repeats g sr sc h wd) {t : Nat} (h1 : 1 ≤ t) (ht : t < (keepL sr h).length) {j : Nat} (hj : j < wd) : g (nthK sr h t - 1) j = g (nthK sr h (t - 1)) j := by
  have hm := nthK_mono (same := sr) (n := h) (show t - 1 < t by omega) ht
  have hlt := nthK_lt ht
  exact chain_eq (f := fun a => g a j) (same := sr) (fun u a b c => hr.rows u a (by omega) b j hj) (by omega) (nthK_prev h1 ht)
theorem Repeats.prev_col {g : Nat → Nat → Nat} {sr sc : Nat → Bool} {h wd : Nat} (hr : Repeats g sr sc h wd) {t : Nat} (h1 : 1 ≤ t) (ht : t < (keepL sc wd).length) {i : Nat} (hi : i < h) : g i (nthK sc wd t - 1) = g i (nthK sc wd (t - 1)) := by
  have hm := nthK_mono (same := sc) (n := wd) (show t - 1 < t by omega) ht
  have hlt := nthK_lt ht
  exact chain_eq (f := fun b => g i b) (same := sc) (fun u a b c => hr.cols u a (by omega) b i hi) (by omega) (nthK_prev h1 ht)
theorem tight_rep {p : List ByteArray} (h : planB p = true) : Repeats (gridG p) (srG (gridG p)) (scG (gridG p) p.length) p.length (wideB p) := by
  have w6 := (planP_of h).grid.w6
  exact ⟨fun i a b hs j hj => srG_iff.1 hs j (by omega), fun j a b hs i hi => scG_iff.1 hs i hi⟩
theorem is_tight {p : List ByteArray} (h : planB p = true) : Is (tightB p) (keepL (srG (gridG p)) p.length).length (keepL (scG (gridG p) p.length) (wideB p)).length (tightM (gridG p) (srG (gridG p)) (scG (gridG p) p.length) p.length (wideB p)) := by
  rw [(tight_math h).2]
  exact is_rows (tight_math h).1 fun i j hi hj => gridG_26 h (nthK_lt hi) (nthK_lt hj)

/-- whether a row of a grid is as the one ahead of it -/
def srM (m : Nat → Nat → Nat) (wd i : Nat) : Bool := (List.range wd).all fun j => m i j == m (i - 1) j
theorem srM_iff {m : Nat → Nat → Nat} {wd i : Nat} : srM m wd i = true ↔ ∀ j, j < wd → m i j = m (i - 1) j := by
  unfold srM
  rw [List.all_eq_true]
  exact ⟨fun h j hj => by simpa using h j (List.mem_range.2 hj), fun h j hj => by simpa using h j (List.mem_range.1 hj)⟩
theorem gridG_out {p : List ByteArray} {i j : Nat} (hj : wideB p ≤ j) : gridG p i j = 0 := by
  unfold gridG renG roomG
  rw [if_neg (by omega)]
theorem Is.tight {q : List ByteArray} {h wd : Nat} {m : Nat → Nat → Nat} (x : Is q h wd m) : Is (tightB q) (keepL (srM m wd) h).length (keepL (scG m h) wd).length (tightM m (srM m wd) (scG m h) h wd) := by
  obtain ⟨hp, rfl, rfl, hs⟩ := x
  have w6 := (planP_of hp).grid.w6
  have e1 : keepL (srG (gridG q)) q.length = keepL (srM m (wideB q)) q.length := keepL_congr fun i a b => by
    rw [Bool.eq_iff_iff, srG_iff, srM_iff]
    constructor
    · intro hh j hj
      exact (hs (i - 1) j i j (by omega) hj b hj).1 (hh j (by omega))
    · intro hh j _
      rcases Nat.lt_or_ge j (wideB q) with hj | hj
      · exact (hs (i - 1) j i j (by omega) hj b hj).2 (hh j hj)
      · rw [gridG_out hj, gridG_out hj]
  have e2 : keepL (scG (gridG q) q.length) (wideB q) = keepL (scG m q.length) (wideB q) := keepL_congr fun j a b => by
    rw [Bool.eq_iff_iff, scG_iff, scG_iff]
    constructor
    · intro hh i hi
      exact (hs i (j - 1) i j hi (by omega) hi b).1 (hh i hi)
    · intro hh i hi
      exact (hs i (j - 1) i j hi (by omega) hi b).2 (hh i hi)
  have en1 : ∀ t, nthK (srG (gridG q)) q.length t = nthK (srM m (wideB q)) q.length t := fun t => by unfold nthK; rw [e1]
  have en2 : ∀ t, nthK (scG (gridG q) q.length) (wideB q) t = nthK (scG m q.length) (wideB q) t := fun t => by unfold nthK; rw [e2]
  have y := is_tight hp
  rw [e1, e2] at y
  refine y.of fun i j i' j' a b c d => ?_
  unfold tightM
  rw [en1, en1, en2, en2]
  exact hs _ _ _ _ (nthK_lt a) (nthK_lt b) (nthK_lt c) (nthK_lt d)

theorem tight_rows {g : Nat → Nat → Nat} {sr sc : Nat → Bool} {h wd : Nat} (hr : Repeats g sr sc h wd) (hs : ∀ i, 1 ≤ i → i < h → (∀ j, j < wd → g i j = g (i - 1) j) → sr i = true) {t : Nat} (h1 : 1 ≤ t) (ht : t < (keepL sr h).length) :
    srM (tightM g sr sc h wd) (keepL sc wd).length t = false := by
  rw [Bool.eq_false_iff]
  intro hh
  rw [srM_iff] at hh
  have hm := nthK_mono (same := sr) (n := h) (show t - 1 < t by omega) ht
  have hl := nthK_lt ht
  have he : sr (nthK sr h t) = true := hs _ (by omega) hl fun j hj => by
    obtain ⟨u, hu, _, he⟩ := hr.col hj
    rw [hr.prev_row h1 ht hj, ← he _ hl, ← he _ (show nthK sr h (t - 1) < h by omega)]
    exact hh u hu
  rcases nthK_kept ht with a | a
  · omega
  · rw [he] at a; cases a
theorem tight_cols {g : Nat → Nat → Nat} {sr sc : Nat → Bool} {h wd : Nat} (hr : Repeats g sr sc h wd) (hs : ∀ j, 1 ≤ j → j < wd → (∀ i, i < h → g i j = g i (j - 1)) → sc j = true) {t : Nat} (h1 : 1 ≤ t) (ht : t < (keepL sc wd).length) :
    scG (tightM g sr sc h wd) (keepL sr h).length t = false := by
  rw [Bool.eq_false_iff]
  intro hh
  rw [scG_iff] at hh
  have hm := nthK_mono (same := sc) (n := wd) (show t - 1 < t by omega) ht
  have hl := nthK_lt ht
  have he : sc (nthK sc wd t) = true := hs _ (by omega) hl fun i hi => by
    obtain ⟨u, hu, _, he⟩ := hr.row hi
    rw [hr.prev_col h1 ht hi, ← he _ hl, ← he _ (show nthK sc wd (t - 1) < wd by omega)]
    exact hh u hu
  rcases nthK_kept ht with a | a
  · omega
  · rw [he] at a; cases a
theorem keepL_all {same : Nat → Bool} {n : Nat} (h : ∀ i, 1 ≤ i → i < n → same i = false) : keepL same n = List.range n := by
  unfold keepL
  rw [List.filter_eq_self]
  intro i hi
  rw [List.mem_range] at hi
  cases i with
  | zero => rfl
  | succ i => rw [h (i + 1) (by omega) hi]; simp
theorem nthK_all {same : Nat → Bool} {n : Nat} (h : ∀ i, 1 ≤ i → i < n → same i = false) {t : Nat} (ht : t < n) : nthK same n t = t := by
  unfold nthK
  rw [keepL_all h, List.getD_eq_getElem?_getD, List.getElem?_range ht]
  rfl
/-- what is tight stays as it is -/
theorem tight_two {p : List ByteArray} (hp : planB p = true) : tightB (tightB p) = tightB p := by
  have y := is_tight hp
  have hr := tight_rep hp
  have k1 := fun t (a : 1 ≤ t) (b : t < (keepL (srG (gridG p)) p.length).length) => tight_rows hr (fun i _ _ hh => srG_iff.2 fun j _ => by
    rcases Nat.lt_or_ge j (wideB p) with hj | hj
    · exact hh j hj
    · rw [gridG_out hj, gridG_out hj]) a b
  have k2 := fun t (a : 1 ≤ t) (b : t < (keepL (scG (gridG p) p.length) (wideB p)).length) => tight_cols hr (fun j _ _ hh => scG_iff.2 hh) a b
  have z := y.tight
  generalize tightM (gridG p) (srG (gridG p)) (scG (gridG p) p.length) p.length (wideB p) = T at *
  generalize (keepL (srG (gridG p)) p.length).length = N at *
  generalize (keepL (scG (gridG p) p.length) (wideB p)).length = W at *
  rw [keepL_all k1, keepL_all k2, List.length_range, List.length_range] at z
  refine z.eq y (sameG_eq fun i j hi hj => ?_)
  unfold tightM
  rw [nthK_all k1 hi, nthK_all k2 hj]

end Go.Proofs.YtobkbgbkkiiloaaGreat
