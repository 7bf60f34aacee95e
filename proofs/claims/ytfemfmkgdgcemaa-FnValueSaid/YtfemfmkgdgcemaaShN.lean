
/-
  Mathematics of the model's tables: half the cuts do.
-/
import Derived.Test.YtfemfmkgdgcemaaShM
namespace Go.Proofs.Ytfemfmkgdgcemaa

/-- cuts from left to right, the first half of them -/
def halfW (w h n : Nat) : List ((Nat × Nat) × (Nat × Nat)) := (List.range n).map fun c => ((c + 1, h), (w - (c + 1), h))
def halfH (w h n : Nat) : List ((Nat × Nat) × (Nat × Nat)) := (List.range n).map fun c => ((w, c + 1), (w, h - (c + 1)))
def halfL (w h : Nat) : List ((Nat × Nat) × (Nat × Nat)) := halfW w h (w / 2) ++ halfH w h (h / 2)
theorem halfW_succ (w h n : Nat) : halfW w h (n + 1) = halfW w h n ++ [((n + 1, h), (w - (n + 1), h))] := by unfold halfW; rw [List.range_succ, List.map_append]; rfl
theorem halfH_succ (w h n : Nat) : halfH w h (n + 1) = halfH w h n ++ [((w, n + 1), (w, h - (n + 1)))] := by unfold halfH; rw [List.range_succ, List.map_append]; rfl
def hlfF (u : Nat → Nat → Int) : Nat → Nat → Nat → Int
  | 0, w, h => u w h
  | k + 1, w, h => ((halfL w h).map (bothF (hlfF u k))).foldl opG (u w h)
def hlf (u : Nat → Nat → Int) (w h : Nat) : Int := hlfF u (w + h) w h
theorem mem_halfL {w h : Nat} {x : (Nat × Nat) × (Nat × Nat)} (hx : x ∈ halfL w h) :
    (∃ c, 1 ≤ c ∧ 2 * c ≤ w ∧ x = ((c, h), (w - c, h))) ∨ (∃ c, 1 ≤ c ∧ 2 * c ≤ h ∧ x = ((w, c), (w, h - c))) := by
  unfold halfL halfW halfH at hx
  rw [List.mem_append, List.mem_map, List.mem_map] at hx
  rcases hx with ⟨c, hc, rfl⟩ | ⟨c, hc, rfl⟩
  · rw [List.mem_range] at hc; exact .inl ⟨c + 1, by omega, by omega, rfl⟩
  · rw [List.mem_range] at hc; exact .inr ⟨c + 1, by omega, by omega, rfl⟩
theorem halfL_wide {w h c : Nat} (h1 : 1 ≤ c) (h2 : 2 * c ≤ w) : ((c, h), (w - c, h)) ∈ halfL w h := by
  unfold halfL halfW
  rw [List.mem_append, List.mem_map]
  refine .inl ⟨c - 1, by rw [List.mem_range]; omega, ?_⟩
  rw [show c - 1 + 1 = c by omega]
theorem halfL_high {w h c : Nat} (h1 : 1 ≤ c) (h2 : 2 * c ≤ h) : ((w, c), (w, h - c)) ∈ halfL w h := by
  unfold halfL halfH
  rw [List.mem_append]
  right
  rw [List.mem_map]
  refine ⟨c - 1, by rw [List.mem_range]; omega, ?_⟩
  rw [show c - 1 + 1 = c by omega]
theorem hlfF_more (u : Nat → Nat → Int) : ∀ k w h, w + h ≤ k → ∀ k', w + h ≤ k' → hlfF u k w h = hlfF u k' w h := by
  intro k
  induction k with
  | zero =>
    intro w h hk k' hk'
    obtain rfl : w = 0 := by omega
    obtain rfl : h = 0 := by omega
    cases k' with
    | zero => rfl
    | succ k' => rfl
  | succ k ih =>
    intro w h hk k' hk'
    cases k' with
    | zero =>
      obtain rfl : w = 0 := by omega
      obtain rfl : h = 0 := by omega
      rfl
    | succ k' =>
      simp only [hlfF]
      congr 1
      refine List.map_congr_left fun x hx => ?_
      rcases mem_halfL hx with ⟨c, h1, h2, rfl⟩ | ⟨c, h1, h2, rfl⟩
      · simp only [bothF]
        rw [ih c h (by omega) k' (by omega), ih (w - c) h (by omega) k' (by omega)]
      · simp only [bothF]
        rw [ih w c (by omega) k' (by omega), ih w (h - c) (by omega) k' (by omega)]
theorem hlf_eq (u : Nat → Nat → Int) (w h : Nat) : hlf u w h = ((halfL w h).map (bothF (hlf u))).foldl opG (u w h) := by
  unfold hlf
  rw [hlfF_more u (w + h) w h (Nat.le_refl _) (w + h + 1) (by omega)]
  simp only [hlfF]
  congr 1
  refine List.map_congr_left fun x hx => ?_
  rcases mem_halfL hx with ⟨c, h1, h2, rfl⟩ | ⟨c, h1, h2, rfl⟩
  · simp only [bothF]
    rw [hlfF_more u (w + h) c h (by omega) (c + h) (Nat.le_refl _), hlfF_more u (w + h) (w - c) h (by omega) (w - c + h) (Nat.le_refl _)]
  · simp only [bothF]
    rw [hlfF_more u (w + h) w c (by omega) (w + c) (Nat.le_refl _), hlfF_more u (w + h) w (h - c) (by omega) (w + (h - c)) (Nat.le_refl _)]
theorem hlf_least (u : Nat → Nat → Int) : Least u (hlf u) := by
  refine least_of (fun w h _ _ => ?_) (fun w h c _ h1 h2 => ?_) (fun w h c _ h1 h2 => ?_) (fun w h m _ _ hu h1 h2 => ?_)
  · rw [hlf_eq]; exact (foldG_ge _ _).1
  · rw [hlf_eq u w h]
    exact (foldG_ge _ _).2 _ (List.mem_map.2 ⟨_, halfL_wide h1 h2, rfl⟩)
  · rw [hlf_eq u w h]
    exact (foldG_ge _ _).2 _ (List.mem_map.2 ⟨_, halfL_high h1 h2, rfl⟩)
  · rw [hlf_eq]
    refine foldG_le _ _ _ hu fun y hy => ?_
    obtain ⟨x, hx, rfl⟩ := List.mem_map.1 hy
    rcases mem_halfL hx with ⟨c, hc, hcw, rfl⟩ | ⟨c, hc, hcw, rfl⟩
    · exact h1 c hc (by omega)
    · exact h2 c hc (by omega)
theorem hlf_tab (u : Nat → Nat → Int) {w h : Nat} (h1 : 1 ≤ w) (h2 : 1 ≤ h) : hlf u w h = tabC opG u w h := (hlf_least u).eq (tabG_least u) h1 h2
theorem hlf_ge (u : Nat → Nat → Int) (w h : Nat) : u w h ≤ hlf u w h := by rw [hlf_eq]; exact (foldG_ge _ _).1
/-- sheets of no width or no height are worth nothing -/
theorem hlf_none {u : Nat → Nat → Int} (hw : ∀ h, u 0 h ≤ 0) (hh : ∀ w, u w 0 ≤ 0) : ∀ n w h, w + h ≤ n → w = 0 ∨ h = 0 → hlf u w h ≤ 0 := by
  intro n
  induction n with
  | zero =>
    intro w h hn _
    obtain rfl : w = 0 := by omega
    obtain rfl : h = 0 := by omega
    rw [hlf_eq]; exact hw 0
  | succ n ih =>
    intro w h hn hz
    rw [hlf_eq]
    refine foldG_le _ _ _ (by rcases hz with rfl | rfl; exact hw h; exact hh w) fun y hy => ?_
    obtain ⟨x, hx, rfl⟩ := List.mem_map.1 hy
    rcases mem_halfL hx with ⟨c, hc, hcw, rfl⟩ | ⟨c, hc, hcw, rfl⟩
    · have e1 := ih c h (by omega) (by omega)
      have e2 := ih (w - c) h (by omega) (by omega)
      simp only [bothF]; omega
    · have e1 := ih w c (by omega) (by omega)
      have e2 := ih w (h - c) (by omega) (by omega)
      simp only [bothF]; omega
theorem hlf_bd {u : Nat → Nat → Int} (hlo : ∀ w h, -400000 ≤ u w h) (hw : ∀ h, u 0 h ≤ 0) (hh : ∀ w, u w 0 ≤ 0) (hm : ∀ w h, 1 ≤ w → w ≤ 12 → 1 ≤ h → h ≤ 12 → tabC opG u w h ≤ 400000) (w h : Nat) (h1 : w ≤ 12) (h2 : h ≤ 12) :
    -400000 ≤ hlf u w h ∧ hlf u w h ≤ 400000 := by
  refine ⟨Int.le_trans (hlo w h) (hlf_ge u w h), ?_⟩
  by_cases hz : w = 0 ∨ h = 0
  · have := hlf_none hw hh (w + h) w h (Nat.le_refl _) hz
    omega
  · rw [hlf_tab u (by omega) (by omega)]
    exact hm w h (by omega) h1 (by omega) h2

/-- the best so far, when some cuts have been tried -/
def bestW (u f : Nat → Nat → Int) (w h n : Nat) : Int := ((halfW w h n).map (bothF f)).foldl opG (u w h)
def bestH (u f : Nat → Nat → Int) (w h n : Nat) : Int := ((halfH w h n).map (bothF f)).foldl opG (bestW u f w h (w / 2))
theorem bestW_zero (u f : Nat → Nat → Int) (w h : Nat) : bestW u f w h 0 = u w h := rfl
theorem bestH_zero (u f : Nat → Nat → Int) (w h : Nat) : bestH u f w h 0 = bestW u f w h (w / 2) := rfl
theorem bestW_succ (u f : Nat → Nat → Int) (w h n : Nat) : bestW u f w h (n + 1) = opG (bestW u f w h n) (f (n + 1) h + f (w - (n + 1)) h) := by
  unfold bestW; rw [halfW_succ, List.map_append, List.foldl_append]; rfl
theorem bestH_succ (u f : Nat → Nat → Int) (w h n : Nat) : bestH u f w h (n + 1) = opG (bestH u f w h n) (f w (n + 1) + f w (h - (n + 1))) := by
  unfold bestH; rw [halfH_succ, List.map_append, List.foldl_append]; rfl
theorem bestH_all (u : Nat → Nat → Int) (w h : Nat) : bestH u (hlf u) w h (h / 2) = hlf u w h := by
  rw [hlf_eq u w h]
  unfold bestH bestW halfL
  rw [List.map_append, List.foldl_append]
/-- rows and columns of thirteen numbers -/
def numsR (f : Nat → Nat → Int) (w n : Nat) : List Int := (List.range n).map fun h => f w h
def rowsR (f : Nat → Nat → Int) (n : Nat) : List (List Int) := (List.range n).map fun w => numsR f w 13
theorem numsR_len (f : Nat → Nat → Int) (w n : Nat) : (numsR f w n).length = n := by simp [numsR]
theorem rowsR_len (f : Nat → Nat → Int) (n : Nat) : (rowsR f n).length = n := by simp [rowsR]
theorem numsR_succ (f : Nat → Nat → Int) (w n : Nat) : numsR f w (n + 1) = numsR f w n ++ [f w n] := by unfold numsR; rw [List.range_succ, List.map_append]; rfl
theorem rowsR_succ (f : Nat → Nat → Int) (n : Nat) : rowsR f (n + 1) = rowsR f n ++ [numsR f n 13] := by unfold rowsR; rw [List.range_succ, List.map_append]; rfl
theorem numsR_at (f : Nat → Nat → Int) (w n : Nat) {h : Nat} (hh : h < n) : (numsR f w n).getD h 0 = f w h := by simp [numsR, hh]
theorem rowsR_at (f : Nat → Nat → Int) (n : Nat) {w : Nat} (hw : w < n) : (rowsR f n).getD w [] = numsR f w 13 := by simp [rowsR, hw]
theorem numsR_congr {f g : Nat → Nat → Int} {w n : Nat} (h : ∀ k, k < n → f w k = g w k) : numsR f w n = numsR g w n := by
  unfold numsR
  exact List.map_congr_left fun k hk => h k (List.mem_range.1 hk)
theorem numsR_set (f : Nat → Nat → Int) (w : Nat) {h : Nat} (v : Int) : (numsR f w 13).set h v = numsR (fun a b => if a = w ∧ b = h then v else f a b) w 13 := by
  apply List.ext_getElem?
  intro i
  by_cases hi : i < 13
  · rw [List.getElem?_set]
    by_cases he : h = i
    · subst he; simp [numsR, hi]
    · rw [if_neg he]
      simp [numsR, hi]
      intro hc; omega
  · rw [List.getElem?_eq_none (by rw [List.length_set, numsR_len]; omega), List.getElem?_eq_none (by rw [numsR_len]; omega)]
theorem rowsR_set (f : Nat → Nat → Int) {w h : Nat} (_hw : w < 13) (v : Int) : (rowsR f 13).set w ((numsR f w 13).set h v) = rowsR (fun a b => if a = w ∧ b = h then v else f a b) 13 := by
  rw [numsR_set]
  apply List.ext_getElem?
  intro i
  by_cases hi : i < 13
  · rw [List.getElem?_set]
    by_cases he : w = i
    · subst he; simp [rowsR, hi]
    · rw [if_neg he]
      simp only [rowsR, List.getElem?_map, List.getElem?_range hi, Option.map_some, Option.some.injEq]
      exact numsR_congr fun k _ => by rw [if_neg (by omega)]
  · rw [List.getElem?_eq_none (by rw [List.length_set, rowsR_len]; omega), List.getElem?_eq_none (by rw [rowsR_len]; omega)]

end Go.Proofs.Ytfemfmkgdgcemaa
