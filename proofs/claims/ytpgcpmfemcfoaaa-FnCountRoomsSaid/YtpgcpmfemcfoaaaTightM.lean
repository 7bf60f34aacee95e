
/-
  Plain mathematics: rows and columns that repeat the one ahead of them are left out.
-/
import Derived.Test.YtpgcpmfemcfoaaaTurns
namespace Go.Proofs.Ytpgcpmfemcfoaaa
open Go.RowKit

/-- the numbers below n that do not repeat the one ahead of them -/
def keepL (same : Nat → Bool) (n : Nat) : List Nat := (List.range n).filter fun i => i == 0 || !same i
theorem keepL_succ (same : Nat → Bool) (n : Nat) : keepL same (n + 1) = keepL same n ++ if (n == 0 || !same n) = true then [n] else [] := by
  unfold keepL
  rw [List.range_succ, List.filter_append]
  congr 1
  rw [List.filter_cons, List.filter_nil]
theorem keepL_yes {same : Nat → Bool} {n : Nat} (h : (n == 0 || !same n) = true) : keepL same (n + 1) = keepL same n ++ [n] := by rw [keepL_succ, if_pos h]
theorem keepL_no {same : Nat → Bool} {n : Nat} (h : (n == 0 || !same n) = false) : keepL same (n + 1) = keepL same n := by rw [keepL_succ, h]; simp
theorem keepL_le (same : Nat → Bool) (n : Nat) : (keepL same n).length ≤ n := by
  unfold keepL
  exact Nat.le_trans (List.length_filter_le _ _) (by simp)
theorem keepL_pos (same : Nat → Bool) {n : Nat} (h : 1 ≤ n) : 1 ≤ (keepL same n).length := by
  have : 0 ∈ keepL same n := by
    unfold keepL
    rw [List.mem_filter, List.mem_range]
    exact ⟨by omega, rfl⟩
  exact List.length_pos_of_mem this
theorem keepL_congr {same same' : Nat → Bool} {n : Nat} (h : ∀ i, 1 ≤ i → i < n → same i = same' i) : keepL same n = keepL same' n := by
  unfold keepL
  refine List.filter_congr fun i hi => ?_
  rw [List.mem_range] at hi
  cases i with
  | zero => rfl
  | succ i => rw [h (i + 1) (by omega) hi]

/-- the t-th of them -/
def nthK (same : Nat → Bool) (n t : Nat) : Nat := (keepL same n).getD t 0
theorem nthK_lt {same : Nat → Bool} {n t : Nat} (h : t < (keepL same n).length) : nthK same n t < n := by
  unfold nthK
  have := getD_mem (0 : Nat) h
  unfold keepL at this
  rw [List.mem_filter, List.mem_range] at this
  exact this.1
theorem nthK_mono {same : Nat → Bool} {n t u : Nat} (h : t < u) (hu : u < (keepL same n).length) : nthK same n t < nthK same n u := by
  have hp : (keepL same n).Pairwise (· < ·) := by
    unfold keepL
    exact List.Pairwise.filter _ List.pairwise_lt_range
  unfold nthK
  have := List.pairwise_iff_getElem.1 hp t u (by omega) hu h
  simpa [show t < (keepL same n).length by omega, hu] using this
/-- each number repeats one of them, and all between -/
theorem nthK_rep {same : Nat → Bool} {n : Nat} (i : Nat) (hi : i < n) : ∃ t, t < (keepL same n).length ∧ nthK same n t ≤ i ∧ ∀ u, nthK same n t < u → u ≤ i → same u = true := by
  have kept : ∀ i, i < n → (i == 0 || !same i) = true → ∃ t, t < (keepL same n).length ∧ nthK same n t ≤ i ∧ ∀ u, nthK same n t < u → u ≤ i → same u = true := fun i hi hk => by
    have hm : i ∈ keepL same n := by
      unfold keepL
      rw [List.mem_filter, List.mem_range]
      exact ⟨hi, hk⟩
    obtain ⟨t, ht, he⟩ := List.getElem_of_mem hm
    have e : nthK same n t = i := by unfold nthK; simp [ht, he]
    exact ⟨t, ht, by rw [e]; exact Nat.le_refl _, fun u a b => by exfalso; rw [e] at a; omega⟩
  induction i with
  | zero => exact kept 0 hi rfl
  | succ i ih =>
    cases hk : (i + 1 == 0 || !same (i + 1)) with
    | true => exact kept (i + 1) hi hk
    | false =>
      rw [Bool.or_eq_false_iff] at hk
      have hs : same (i + 1) = true := by simpa using hk.2
      obtain ⟨t, ht, hle, hall⟩ := ih (by omega)
      refine ⟨t, ht, by omega, fun u a b => ?_⟩
      rcases Nat.lt_or_ge u (i + 1) with h | h
      · exact hall u a (by omega)
      · obtain rfl : u = i + 1 := by omega
        exact hs
/-- what is the same as the one ahead of it throughout is the same as the first -/
theorem chain_eq {α : Type} {f : Nat → α} {same : Nat → Bool} {a i : Nat} (hs : ∀ u, 1 ≤ u → same u = true → u ≤ i → f u = f (u - 1)) (hle : a ≤ i) (h : ∀ u, a < u → u ≤ i → same u = true) : f i = f a := by
  induction i with
  | zero =>
    obtain rfl : a = 0 := by omega
    rfl
  | succ i ih =>
    rcases Nat.eq_or_lt_of_le hle with rfl | h1
    · rfl
    · rw [hs (i + 1) (by omega) (h (i + 1) h1 (Nat.le_refl _)) (Nat.le_refl _)]
      exact ih (fun u a b c => hs u a b (by omega)) (by omega) (fun u a b => h u a (by omega))

/-- a growing list of numbers cuts each interval into one -/
theorem mono_cut {n : Nat} {f : Nat → Nat} (hm : ∀ i j, i < j → j < n → f i < f j) (a : Nat) : ∃ c, c ≤ n ∧ ∀ i, i < n → (f i < a ↔ i < c) := by
  induction n with
  | zero => exact ⟨0, Nat.le_refl _, fun i h => by omega⟩
  | succ n ih =>
    obtain ⟨c, hc, h⟩ := ih (fun i j a b => hm i j a (by omega))
    by_cases hn : f n < a
    · refine ⟨n + 1, Nat.le_refl _, fun i hi => ⟨fun _ => hi, fun _ => ?_⟩⟩
      rcases Nat.lt_or_ge i n with h1 | h1
      · have := hm i n h1 (by omega); omega
      · obtain rfl : i = n := by omega
        exact hn
    · refine ⟨c, by omega, fun i hi => ?_⟩
      rcases Nat.lt_or_ge i n with h1 | h1
      · exact h i h1
      · obtain rfl : i = n := by omega
        constructor
        · intro h2; exact absurd h2 hn
        · intro h2; omega
theorem pull_mono {n h : Nat} {f : Nat → Nat} (hf : ∀ i, i < n → f i < h) (hm : ∀ i j, i < j → j < n → f i < f j) : Pull n h f := by
  refine ⟨hf, fun a k _ => ?_⟩
  obtain ⟨c, hc, h1⟩ := mono_cut hm a
  obtain ⟨d, hd, h2⟩ := mono_cut hm (a + k)
  refine ⟨min c d, d - min c d, by omega, fun i hi => ?_⟩
  have e1 := h1 i hi
  have e2 := h2 i hi
  constructor
  · rintro ⟨x, y⟩
    have := e2.1 y
    have : ¬ i < c := fun z => by have := e1.2 z; omega
    omega
  · rintro ⟨x, y⟩
    have := e2.2 (by omega)
    have : ¬ f i < a := fun z => by have := e1.1 z; omega
    omega

/-- marks without what repeats -/
def tightM (g : Nat → Nat → Nat) (sr sc : Nat → Bool) (h wd i j : Nat) : Nat := g (nthK sr h i) (nthK sc wd j)

structure Repeats (g : Nat → Nat → Nat) (sr sc : Nat → Bool) (h wd : Nat) : Prop where
  rows : ∀ i, 1 ≤ i → i < h → sr i = true → ∀ j, j < wd → g i j = g (i - 1) j
  cols : ∀ j, 1 ≤ j → j < wd → sc j = true → ∀ i, i < h → g i j = g i (j - 1)

theorem Repeats.row {g : Nat → Nat → Nat} {sr sc : Nat → Bool} {h wd : Nat} (hr : Repeats g sr sc h wd) {i : Nat} (hi : i < h) : ∃ t, t < (keepL sr h).length ∧ nthK sr h t ≤ i ∧ ∀ j, j < wd → g (nthK sr h t) j = g i j := by
  obtain ⟨t, ht, hle, hall⟩ := nthK_rep (same := sr) i hi
  refine ⟨t, ht, hle, fun j hj => ?_⟩
  exact (chain_eq (f := fun a => g a j) (same := sr) (fun u a b c => hr.rows u a (by omega) b j hj) hle hall).symm
theorem Repeats.col {g : Nat → Nat → Nat} {sr sc : Nat → Bool} {h wd : Nat} (hr : Repeats g sr sc h wd) {j : Nat} (hj : j < wd) : ∃ t, t < (keepL sc wd).length ∧ nthK sc wd t ≤ j ∧ ∀ i, i < h → g i (nthK sc wd t) = g i j := by
  obtain ⟨t, ht, hle, hall⟩ := nthK_rep (same := sc) j hj
  refine ⟨t, ht, hle, fun i hi => ?_⟩
  exact (chain_eq (f := fun b => g i b) (same := sc) (fun u a b c => hr.cols u a (by omega) b i hi) hle hall).symm

theorem tight_canon {g : Nat → Nat → Nat} {sr sc : Nat → Bool} {h wd : Nat} (hr : Repeats g sr sc h wd) (hc : CanonG h wd g) : CanonG (keepL sr h).length (keepL sc wd).length (tightM g sr sc h wd) := by
  intro i j hi hj r hlt
  have hRi := nthK_lt hi
  have hCj := nthK_lt hj
  obtain ⟨a, b, ha, hb, hab, hg⟩ := hc _ _ hRi hCj r hlt
  rw [lex_lt hCj hb] at hab
  obtain ⟨t, ht, htle, hteq⟩ := hr.row ha
  obtain ⟨u, hu, hule, hueq⟩ := hr.col hb
  refine ⟨t, u, ht, hu, ?_, ?_⟩
  · rw [lex_lt hj hu]
    have hm : ∀ x y, x < (keepL sr h).length → y < (keepL sr h).length → nthK sr h x < nthK sr h y → x < y := fun x y hx hy hxy => by
      rcases Nat.lt_trichotomy x y with h1 | h1 | h1
      · exact h1
      · subst h1; omega
      · have := nthK_mono h1 hx; omega
    have hm2 : ∀ x y, x < (keepL sc wd).length → y < (keepL sc wd).length → nthK sc wd x < nthK sc wd y → x < y := fun x y hx hy hxy => by
      rcases Nat.lt_trichotomy x y with h1 | h1 | h1
      · exact h1
      · subst h1; omega
      · have := nthK_mono h1 hx; omega
    rcases hab with h1 | ⟨h1, h2⟩
    · left; exact hm t i ht hi (by omega)
    · rcases Nat.lt_or_ge (nthK sr h t) (nthK sr h i) with h3 | h3
      · left; exact hm t i ht hi h3
      · right
        refine ⟨?_, hm2 u j hu hj (by omega)⟩
        rcases Nat.lt_trichotomy t i with h4 | h4 | h4
        · have := nthK_mono h4 hi; omega
        · exact h4
        · have := nthK_mono h4 ht; omega
  · unfold tightM
    rw [hueq _ (nthK_lt ht), hteq _ hb, hg]

theorem tight_draw {g : Nat → Nat → Nat} {sr sc : Nat → Bool} {h wd R : Nat} (h1 : 1 ≤ h) (h6 : h ≤ 6) (w1 : 1 ≤ wd) (w6 : wd ≤ 6) (hR : R ≤ 9) (hlt : ∀ i j, i < h → j < wd → g i j < R) (hr : RectG h wd g) :
    drawOk (keepL sr h).length (keepL sc wd).length (tightM g sr sc h wd) = true := by
  have a1 := keepL_le sr h
  have a2 := keepL_le sc wd
  have b1 := keepL_pos sr h1
  have b2 := keepL_pos sc w1
  refine drawOk_of b1 (by omega) b2 (by omega) hR (fun i j hi hj => hlt _ _ (nthK_lt hi) (nthK_lt hj)) ?_
  exact hr.pull (pull_mono (fun i hi => nthK_lt hi) (fun i j a b => nthK_mono a b)) (pull_mono (fun i hi => nthK_lt hi) (fun i j a b => nthK_mono a b))

/-! ### texts without rows that repeat -/
def sameB (p : List ByteArray) (i : Nat) : Bool := decide (p.getD i ByteArray.empty = p.getD (i - 1) ByteArray.empty)
def onceB (p : List ByteArray) : List ByteArray := (keepL (sameB p) p.length).map fun i => p.getD i ByteArray.empty
theorem onceB_len (p : List ByteArray) : (onceB p).length = (keepL (sameB p) p.length).length := by simp [onceB]

theorem onceB_at {p : List ByteArray} {i : Nat} (h : i < (onceB p).length) : (onceB p)[i] = p.getD (nthK (sameB p) p.length i) ByteArray.empty := by
  have h1 := h
  rw [onceB_len] at h1
  have e : (keepL (sameB p) p.length)[i] = nthK (sameB p) p.length i := by unfold nthK; simp [h1]
  rw [← e]
  simp [onceB]
theorem rowsT_at {h wd : Nat} {g : Nat → Nat → Nat} {i : Nat} (hi : i < (rowsT h wd g).length) : (rowsT h wd g)[i] = ⟨(rowT wd g i).toArray⟩ := by simp [rowsT]

theorem once_rows {h wd : Nat} {m : Nat → Nat → Nat} : onceB (rowsT h wd m) = rowsT (keepL (sameB (rowsT h wd m)) h).length wd (fun i j => m (nthK (sameB (rowsT h wd m)) h i) j) := by
  apply List.ext_getElem
  · rw [onceB_len, rowsT_len, rowsT_len]
  · intro i h1 h2
    rw [onceB_at, rowsT_at, rowsT_len]
    rw [onceB_len, rowsT_len] at h1
    rw [rowsT_row (nthK_lt h1)]
    rfl

theorem sameB_rows {h wd : Nat} {m : Nat → Nat → Nat} (hm : ∀ i j, i < h → j < wd → m i j < 26) {i : Nat} (h1 : 1 ≤ i) (hi : i < h) : sameB (rowsT h wd m) i = decide (∀ j, j < wd → m i j = m (i - 1) j) := by
  unfold sameB
  rw [rowsT_row hi, rowsT_row (show i - 1 < h by omega)]
  congr 1
  rw [eq_iff_iff]
  constructor
  · intro e j hj
    have e2 : rowT wd m i = rowT wd m (i - 1) := by
      have := congrArg (fun s : ByteArray => s.data.toList) e
      exact this
    unfold rowT at e2
    have := congrArg (fun l : List UInt8 => l.getD j 0) e2
    simp [hj] at this
    have a := hm i j hi hj
    have b := hm (i - 1) j (by omega) hj
    have c := congrArg UInt8.toNat this
    rw [UInt8.toNat_ofNat', UInt8.toNat_ofNat', Nat.mod_eq_of_lt (by omega), Nat.mod_eq_of_lt (by omega)] at c
    omega
  · intro e
    congr 2
    unfold rowT
    refine List.map_congr_left fun j hj => ?_
    rw [e j (List.mem_range.1 hj)]

def tightB (p : List ByteArray) : List ByteArray := transB (onceB (transB (onceB p)))

theorem trans_rows {h wd : Nat} {m : Nat → Nat → Nat} (h1 : 1 ≤ h) : transB (rowsT h wd m) = rowsT wd h (fun i j => m j i) := by
  unfold transB
  rw [rowsT_wide h1, rowsT_len]
  exact mat_rows fun i j hi hj => byteAt_rows hj hi

/-- the program's tests -/
def srG (g : Nat → Nat → Nat) (i : Nat) : Bool := (List.range 6).all fun j => g i j == g (i - 1) j
def scG (g : Nat → Nat → Nat) (h j : Nat) : Bool := (List.range h).all fun i => g i j == g i (j - 1)
theorem srG_iff {g : Nat → Nat → Nat} {i : Nat} : srG g i = true ↔ ∀ j, j < 6 → g i j = g (i - 1) j := by
  unfold srG
  rw [List.all_eq_true]
  exact ⟨fun h j hj => by simpa using h j (List.mem_range.2 hj), fun h j hj => by simpa using h j (List.mem_range.1 hj)⟩
theorem scG_iff {g : Nat → Nat → Nat} {h j : Nat} : scG g h j = true ↔ ∀ i, i < h → g i j = g i (j - 1) := by
  unfold scG
  rw [List.all_eq_true]
  exact ⟨fun h j hj => by simpa using h j (List.mem_range.2 hj), fun h j hj => by simpa using h j (List.mem_range.1 hj)⟩

theorem tight_text {p : List ByteArray} (h : planB p = true) :
    tightB p = rowsT (keepL (srG (gridG p)) p.length).length (keepL (scG (gridG p) p.length) (wideB p)).length (tightM (gridG p) (srG (gridG p)) (scG (gridG p) p.length) p.length (wideB p)) := by
  have hp := planP_of h
  have h1 := hp.grid.h1; have w1 := hp.grid.w1; have w6 := hp.grid.w6
  have hlt : ∀ i j, markN p i j < 26 := markN_lt p
  have hmk := hp.mark
  have hout : ∀ i j, wideB p ≤ j → gridG p i j = 0 := fun i j hj => by
    unfold gridG renG
    unfold roomG
    rw [if_neg (by omega)]
  generalize gridG p = g at *
  have ht := text_of hp.grid
  generalize markN p = m at *
  generalize wideB p = wd at *
  generalize p.length = n at *
  -- rows
  have e1 : keepL (sameB (rowsT n wd m)) n = keepL (srG g) n := keepL_congr fun i a b => by
    rw [sameB_rows (fun i j _ _ => hlt i j) a b, Bool.eq_iff_iff, decide_eq_true_iff, srG_iff]
    constructor
    · intro hh j _
      rcases Nat.lt_or_ge j wd with hj | hj
      · rw [← hmk i j b hj, ← hmk (i - 1) j (by omega) hj]; exact hh j hj
      · rw [hout i j hj, hout (i - 1) j hj]
    · intro hh j hj
      rw [hmk i j b hj, hmk (i - 1) j (by omega) hj]
      exact hh j (by omega)
  have en1 : ∀ t, nthK (sameB (rowsT n wd m)) n t = nthK (srG g) n t := fun t => by unfold nthK; rw [e1]
  have hpos := keepL_pos (srG g) h1
  unfold tightB
  rw [ht, once_rows, trans_rows (by rw [e1]; exact hpos)]
  simp only [en1]
  rw [e1, once_rows]
  -- columns
  have hrep : Repeats g (srG g) (fun _ => false) n wd := ⟨fun i a b hs j hj => srG_iff.1 hs j (by omega), fun j _ _ hs => by cases hs⟩
  generalize hN : (keepL (srG g) n).length = N at *
  have e2 : keepL (sameB (rowsT wd N (fun i j => m (nthK (srG g) n j) i))) wd = keepL (scG g n) wd := keepL_congr fun j a b => by
    rw [sameB_rows (fun i j _ _ => hlt _ _) a b, Bool.eq_iff_iff, decide_eq_true_iff, scG_iff]
    constructor
    · intro hh i hi
      obtain ⟨t, ht, _, heq⟩ := hrep.row hi
      rw [← heq j b, ← heq (j - 1) (by omega)]
      have hl := nthK_lt ht
      rw [← hmk _ j hl b, ← hmk _ (j - 1) hl (by omega)]
      exact hh t (by rw [← hN]; exact ht)
    · intro hh t ht
      have hl := nthK_lt (same := srG g) (n := n) (t := t) (by rw [hN]; exact ht)
      rw [hmk _ j hl b, hmk _ (j - 1) hl (by omega)]
      exact hh _ hl
  have en2 : ∀ t, nthK (sameB (rowsT wd N (fun i j => m (nthK (srG g) n j) i))) wd t = nthK (scG g n) wd t := fun t => by
    show (keepL (sameB (rowsT wd N (fun i j => m (nthK (srG g) n j) i))) wd).getD t 0 = _
    rw [e2]
    rfl
  have hpos2 := keepL_pos (scG g n) w1
  rw [trans_rows (by rw [e2]; exact hpos2)]
  simp only [en2]
  rw [e2]
  refine rowsT_congr fun i j hi hj => ?_
  exact hmk _ _ (nthK_lt (by rw [hN]; exact hi)) (nthK_lt hj)

theorem tight_math {p : List ByteArray} (h : planB p = true) :
    drawOk (keepL (srG (gridG p)) p.length).length (keepL (scG (gridG p) p.length) (wideB p)).length (tightM (gridG p) (srG (gridG p)) (scG (gridG p) p.length) p.length (wideB p)) = true ∧
    tightB p = rowsT (keepL (srG (gridG p)) p.length).length (keepL (scG (gridG p) p.length) (wideB p)).length (renG (keepL (srG (gridG p)) p.length).length (keepL (scG (gridG p) p.length) (wideB p)).length (tightM (gridG p) (srG (gridG p)) (scG (gridG p) p.length) p.length (wideB p))) := by
  have hp := planP_of h
  have w6 := hp.grid.w6
  have hrep : Repeats (gridG p) (srG (gridG p)) (scG (gridG p) p.length) p.length (wideB p) := ⟨fun i a b hs j hj => srG_iff.1 hs j (by omega), fun j a b hs i hi => scG_iff.1 hs i hi⟩
  have hrect : RectG p.length (wideB p) (gridG p) := hp.rect.of_same (ren_pattern _ _ _)
  have hcan : CanonG p.length (wideB p) (gridG p) := canon_ren _ _ _
  refine ⟨tight_draw hp.grid.h1 hp.grid.h6 hp.grid.w1 w6 hp.few (fun i j hi hj => gridG_lt (p := p) hi hj) hrect, ?_⟩
  rw [tight_text h]
  exact rowsT_congr fun i j hi hj => (ren_canon (tight_canon hrep hcan) hi hj).symm

end Go.Proofs.Ytpgcpmfemcfoaaa
