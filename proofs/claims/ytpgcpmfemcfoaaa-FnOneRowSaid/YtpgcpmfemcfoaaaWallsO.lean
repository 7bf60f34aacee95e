/-
  Merged texts: WallM WallI RowK WallJ.
-/
import Derived.Test.YtpgcpmfemcfoaaaImplABO
import Derived.Test.YtpgcpmfemcfoaaaRowO
import Derived.Great.BuildSlice
import Derived.Laws.StructEq

/-
  Plain mathematics: the walls of a grid, as runs along its lines.
-/
namespace Go.Proofs.Ytpgcpmfemcfoaaa
open Go.RowKit

/-- where the run of cells that a line has ahead of one begins -/
def downTo (f : Nat → Bool) : Nat → Nat
  | 0 => 0
  | k + 1 => if f k = true then downTo f k else k + 1
/-- how long the run from a cell on is -/
def runFrom (f : Nat → Bool) (n s : Nat) : Nat := runLen (fun t => f (s + t)) (n - s)

theorem downTo_le (f : Nat → Bool) : ∀ k, downTo f k ≤ k
  | 0 => Nat.le_refl _
  | k + 1 => by
    unfold downTo; split
    · exact Nat.le_trans (downTo_le f k) (Nat.le_succ _)
    · exact Nat.le_refl _
theorem downTo_all (f : Nat → Bool) : ∀ k i, downTo f k ≤ i → i < k → f i = true
  | 0, i, _, h => by omega
  | k + 1, i, h1, h2 => by
    unfold downTo at h1
    split at h1
    · rename_i hk
      by_cases he : i = k
      · subst he; exact hk
      · exact downTo_all f k i h1 (by omega)
    · omega
theorem downTo_stop (f : Nat → Bool) : ∀ k, 0 < downTo f k → f (downTo f k - 1) = false
  | 0, h => by simp [downTo] at h
  | k + 1, h => by
    unfold downTo at h ⊢
    split
    · rename_i hk; rw [if_pos hk] at h; exact downTo_stop f k h
    · rename_i hk; simpa using hk
theorem downTo_eq {f : Nat → Bool} {k t : Nat} (h1 : t ≤ k) (h2 : ∀ i, t ≤ i → i < k → f i = true) (h3 : 0 < t → f (t - 1) = false) : downTo f k = t := by
  have a := downTo_le f k
  have b := downTo_all f k
  have c := downTo_stop f k
  rcases Nat.lt_trichotomy (downTo f k) t with h | h | h
  · have := b (t - 1) (by omega) (by omega); rw [h3 (by omega)] at this; cases this
  · exact h
  · have := h2 (downTo f k - 1) (by omega) (by omega); rw [c (by omega)] at this; cases this
theorem downTo_go {f : Nat → Bool} {k : Nat} (h : f k = true) : downTo f (k + 1) = downTo f k := by
  show (if f k = true then downTo f k else k + 1) = _; rw [if_pos h]
theorem downTo_no {f : Nat → Bool} {k : Nat} (h : f k = false) : downTo f (k + 1) = k + 1 := by
  show (if f k = true then downTo f k else k + 1) = _; rw [if_neg (by rw [h]; exact Bool.false_ne_true)]
theorem downTo_here {f : Nat → Bool} {k : Nat} (h : k = 0 ∨ f (k - 1) = false) : downTo f k = k := by
  rcases h with rfl | h
  · rfl
  · cases k with
    | zero => rfl
    | succ k => exact downTo_no h

theorem runFrom_le (f : Nat → Bool) (n s : Nat) : runFrom f n s ≤ n - s := runLen_le _ _
theorem runFrom_eq {f : Nat → Bool} {n s e : Nat} (h1 : s ≤ e) (h2 : e ≤ n) (h3 : ∀ i, s ≤ i → i < e → f i = true) (h4 : e < n → f e = false) : runFrom f n s = e - s :=
  runLen_eq _ _ _ (by omega) (fun i hi => h3 _ (by omega) (by omega)) (fun h => by rw [show s + (e - s) = e from by omega]; exact h4 (by omega))
theorem runFrom_all {f : Nat → Bool} {n s i : Nat} (h1 : s ≤ i) (h2 : i < s + runFrom f n s) : f i = true := by
  have := runLen_all (n - s) (fun t => f (s + t)) (i - s) (by unfold runFrom at h2; omega)
  rwa [show s + (i - s) = i from by omega] at this
theorem runFrom_stop {f : Nat → Bool} {n s : Nat} (hs : s ≤ n) (h : s + runFrom f n s < n) : f (s + runFrom f n s) = false :=
  runLen_stop (n - s) (fun t => f (s + t)) (by unfold runFrom at h; omega)
/-- from any cell of a run on, it ends at the same one -/
theorem runFrom_mid {f : Nat → Bool} {n s i : Nat} (hi : i ≤ n) (h1 : s ≤ i) (h2 : ∀ k, s ≤ k → k < i → f k = true) : s + runFrom f n s = i + runFrom f n i := by
  have a := runFrom_le f n i
  have := runFrom_eq (f := f) (n := n) (s := s) (e := i + runFrom f n i) (by omega) (by omega) (fun k hk1 hk2 => by
    by_cases hk : k < i
    · exact h2 k hk1 hk
    · exact runFrom_all (by omega) hk2) (fun h => runFrom_stop hi h)
  omega
theorem runFrom_pos {f : Nat → Bool} {n s : Nat} (h1 : s < n) (h2 : f s = true) : 1 ≤ runFrom f n s := by
  have a := runFrom_le f n s
  rcases Nat.eq_zero_or_pos (runFrom f n s) with h | h
  · have := runFrom_stop (f := f) (n := n) (s := s) (by omega) (by omega)
    rw [h, Nat.add_zero, h2] at this; cases this
  · exact h

/-- the runs that begin ahead of a cell -/
def lineW (f : Nat → Bool) (n : Nat) : Nat → List (Nat × Nat)
  | 0 => []
  | t + 1 => if f t = true ∧ downTo f t = t then lineW f n t ++ [(t, runFrom f n t)] else lineW f n t

theorem lineW_len (f : Nat → Bool) (n : Nat) : ∀ t, (lineW f n t).length ≤ t
  | 0 => Nat.le_refl _
  | t + 1 => by
    unfold lineW; have := lineW_len f n t
    split
    · rw [List.length_append]; simp only [List.length_singleton]; omega
    · omega

/-- the last run that begins ahead of a cell is the one that comes to it -/
theorem lineW_last {f : Nat → Bool} {n : Nat} : ∀ t, 0 < t → f (t - 1) = true → ∃ init, lineW f n t = init ++ [(downTo f t, runFrom f n (downTo f t))]
  | 0, h, _ => by omega
  | t + 1, _, h => by
    rw [Nat.add_sub_cancel] at h
    rw [downTo_go h]
    by_cases hd : downTo f t = t
    · refine ⟨lineW f n t, ?_⟩
      show (if f t = true ∧ downTo f t = t then _ else _) = _
      rw [if_pos ⟨h, hd⟩, hd]
    · have ht : 0 < t := by
        rcases Nat.eq_zero_or_pos t with rfl | h'
        · exact absurd rfl hd
        · exact h'
      have hp : f (t - 1) = true := by
        cases hf : f (t - 1)
        · exact absurd (downTo_here (.inr hf)) hd
        · rfl
      obtain ⟨init, hi⟩ := lineW_last (n := n) t ht hp
      refine ⟨init, ?_⟩
      show (if f t = true ∧ downTo f t = t then _ else _) = _
      rw [if_neg (fun h => hd h.2), hi]

theorem lineW_new {f : Nat → Bool} {n t : Nat} (h : f t = true) (hd : downTo f t = t) : lineW f n (t + 1) = lineW f n t ++ [(t, runFrom f n t)] := if_pos ⟨h, hd⟩
theorem lineW_no {f : Nat → Bool} {n t : Nat} (h : f t = false) : lineW f n (t + 1) = lineW f n t := if_neg (fun e => by rw [h] at e; cases e.1)
theorem lineW_on {f : Nat → Bool} {n t : Nat} (h : downTo f t ≠ t) : lineW f n (t + 1) = lineW f n t := if_neg (fun e => h e.2)

theorem lineW_mem {f : Nat → Bool} {n : Nat} : ∀ {t : Nat} {x : Nat × Nat}, x ∈ lineW f n t → x.1 < t ∧ f x.1 = true ∧ downTo f x.1 = x.1 ∧ x.2 = runFrom f n x.1
  | 0, x, h => by simp [lineW] at h
  | t + 1, x, h => by
    unfold lineW at h
    split at h
    · rename_i hc
      rw [List.mem_append, List.mem_singleton] at h
      rcases h with h | rfl
      · have := lineW_mem h; exact ⟨by omega, this.2⟩
      · exact ⟨by show t < t + 1; omega, hc.1, hc.2, rfl⟩
    · have := lineW_mem h; exact ⟨by omega, this.2⟩
theorem mem_lineW {f : Nat → Bool} {n : Nat} : ∀ {t s : Nat}, s < t → f s = true → downTo f s = s → (s, runFrom f n s) ∈ lineW f n t
  | 0, s, h, _, _ => by omega
  | t + 1, s, h, h1, h2 => by
    by_cases he : s = t
    · subst he; rw [lineW_new h1 h2]; simp
    · unfold lineW
      have := mem_lineW (n := n) (t := t) (s := s) (by omega) h1 h2
      split
      · exact List.mem_append_left _ this
      · exact this

/-- the runs that have ended ahead of a cell: all but the one that comes to it -/
def doneW (f : Nat → Bool) (n t : Nat) : List (Nat × Nat) := if 0 < t ∧ f (t - 1) = true then (lineW f n t).dropLast else lineW f n t
/-- where the run that comes to a cell began -/
def openW (f : Nat → Bool) (t : Nat) : Int := if 0 < t ∧ f (t - 1) = true then (downTo f t : Nat) else -1

theorem openW_here {f : Nat → Bool} {t : Nat} (h : openW f t < 0) : downTo f t = t ∧ ¬ (0 < t ∧ f (t - 1) = true) := by
  unfold openW at h
  split at h
  · omega
  · rename_i hc
    refine ⟨downTo_here ?_, hc⟩
    rcases Nat.eq_zero_or_pos t with h' | h'
    · exact .inl h'
    · right
      cases hf : f (t - 1)
      · rfl
      · exact absurd ⟨h', hf⟩ hc
theorem openW_some {f : Nat → Bool} {t : Nat} (h : ¬ openW f t < 0) : openW f t = (downTo f t : Nat) ∧ 0 < t ∧ f (t - 1) = true := by
  unfold openW at h ⊢
  split at h
  · rename_i hc; rw [if_pos hc]; exact ⟨rfl, hc⟩
  · omega
theorem openW_bound (f : Nat → Bool) (t : Nat) : -1 ≤ openW f t ∧ openW f t ≤ t := by
  unfold openW
  have := downTo_le f t
  split <;> omega
theorem openW_zero (f : Nat → Bool) : openW f 0 = -1 := by unfold openW; rw [if_neg (by omega)]
theorem doneW_zero (f : Nat → Bool) (n : Nat) : doneW f n 0 = [] := by unfold doneW; rw [if_neg (by omega)]; rfl

/-- a run begins -/
theorem scan_begin {f : Nat → Bool} {n t : Nat} (h : f t = true) (ho : openW f t < 0) : openW f (t + 1) = (t : Nat) ∧ doneW f n (t + 1) = doneW f n t := by
  obtain ⟨hd, hn⟩ := openW_here ho
  have hc : 0 < t + 1 ∧ f (t + 1 - 1) = true := ⟨by omega, by rw [Nat.add_sub_cancel]; exact h⟩
  refine ⟨by unfold openW; rw [if_pos hc, downTo_go h, hd], ?_⟩
  unfold doneW
  rw [if_pos hc, if_neg hn, lineW_new h hd, List.dropLast_concat]
/-- a run goes on -/
theorem scan_on {f : Nat → Bool} {n t : Nat} (h : f t = true) (ho : ¬ openW f t < 0) : openW f (t + 1) = openW f t ∧ doneW f n (t + 1) = doneW f n t := by
  obtain ⟨he, ht⟩ := openW_some ho
  have hc : 0 < t + 1 ∧ f (t + 1 - 1) = true := ⟨by omega, by rw [Nat.add_sub_cancel]; exact h⟩
  have hd : downTo f t ≠ t := by
    intro hd
    have := downTo_all f t (t - 1)
    obtain ⟨k, rfl⟩ : ∃ k, t = k + 1 := ⟨t - 1, by omega⟩
    have h2 : f k = true := by simpa using ht.2
    rw [downTo_go h2] at hd
    have := downTo_le f k
    omega
  refine ⟨by rw [he]; unfold openW; rw [if_pos hc, downTo_go h], ?_⟩
  unfold doneW
  rw [if_pos hc, if_pos ht, lineW_on hd]
/-- a run has ended -/
theorem scan_end {f : Nat → Bool} {n t : Nat} (h : f t = false) (htn : t ≤ n) (ho : ¬ openW f t < 0) : openW f (t + 1) = -1 ∧ ∃ s : Nat, s < t ∧ openW f t = (s : Nat) ∧ doneW f n (t + 1) = doneW f n t ++ [(s, t - s)] := by
  obtain ⟨he, ht⟩ := openW_some ho
  have hc : ¬ (0 < t + 1 ∧ f (t + 1 - 1) = true) := fun e => by rw [Nat.add_sub_cancel, h] at e; cases e.2
  obtain ⟨init, hi⟩ := lineW_last (n := n) t ht.1 ht.2
  have hle := downTo_le f t
  have hlt : downTo f t < t := by
    obtain ⟨k, rfl⟩ : ∃ k, t = k + 1 := ⟨t - 1, by omega⟩
    have h2 : f k = true := by simpa using ht.2
    rw [downTo_go h2]; have := downTo_le f k; omega
  refine ⟨by unfold openW; rw [if_neg hc], downTo f t, hlt, he, ?_⟩
  unfold doneW
  rw [if_neg hc, if_pos ht, lineW_no h, hi, List.dropLast_concat, runFrom_eq hle htn (fun i a b => downTo_all f t i a b) (fun _ => h)]
/-- no run comes here, none begins -/
theorem scan_none {f : Nat → Bool} {n t : Nat} (h : f t = false) (ho : openW f t < 0) : openW f (t + 1) = openW f t ∧ doneW f n (t + 1) = doneW f n t := by
  obtain ⟨hd, hn⟩ := openW_here ho
  have hc : ¬ (0 < t + 1 ∧ f (t + 1 - 1) = true) := fun e => by rw [Nat.add_sub_cancel, h] at e; cases e.2
  refine ⟨by unfold openW; rw [if_neg hc, if_neg hn], ?_⟩
  unfold doneW
  rw [if_neg hc, if_neg hn, lineW_no h]
theorem scan_all {f : Nat → Bool} {n : Nat} (h : f n = false) : doneW f n (n + 1) = lineW f n n := by
  unfold doneW
  rw [if_neg (fun e => by rw [Nat.add_sub_cancel, h] at e; cases e.2), lineW_no h]
theorem doneW_len (f : Nat → Bool) (n t : Nat) : (doneW f n t).length ≤ t := by
  have := lineW_len f n t
  unfold doneW
  split
  · rw [List.length_dropLast]; omega
  · exact this

/-- a wall: its way, its line, where it begins, how long it is -/
structure Wl where
  way : Nat
  line : Nat
  first : Nat
  long : Nat

/-- the walls of all lines ahead of one -/
def linesW (way : Nat) (F : Nat → Nat → Bool) (n : Nat) : Nat → List Wl
  | 0 => []
  | k + 1 => if k = 0 then linesW way F n k else linesW way F n k ++ (lineW (F k) n n).map fun x => ⟨way, k, x.1, x.2⟩

theorem linesW_succ {way : Nat} {F : Nat → Nat → Bool} {n k : Nat} (h : 1 ≤ k) : linesW way F n (k + 1) = linesW way F n k ++ (lineW (F k) n n).map fun x => ⟨way, k, x.1, x.2⟩ := if_neg (by omega)
theorem linesW_one (way : Nat) (F : Nat → Nat → Bool) (n : Nat) : linesW way F n 1 = [] := rfl
theorem linesW_len (way : Nat) (F : Nat → Nat → Bool) (n : Nat) : ∀ k, (linesW way F n k).length ≤ k * n
  | 0 => Nat.zero_le _
  | k + 1 => by
    have := linesW_len way F n k
    have h2 := lineW_len (F k) n n
    unfold linesW
    rw [Nat.succ_mul]
    split
    · omega
    · rw [List.length_append, List.length_map]; omega

theorem linesW_mem {way : Nat} {F : Nat → Nat → Bool} {n : Nat} : ∀ {k : Nat} {x : Wl}, x ∈ linesW way F n k → x.way = way ∧ 1 ≤ x.line ∧ x.line < k ∧ x.first < n ∧ F x.line x.first = true ∧ downTo (F x.line) x.first = x.first ∧ x.long = runFrom (F x.line) n x.first
  | 0, x, h => by simp [linesW] at h
  | k + 1, x, h => by
    unfold linesW at h
    split at h
    · have := linesW_mem h; exact ⟨this.1, this.2.1, by omega, this.2.2.2⟩
    · rename_i hk
      rw [List.mem_append, List.mem_map] at h
      rcases h with h | ⟨y, hy, rfl⟩
      · have := linesW_mem h; exact ⟨this.1, this.2.1, by omega, this.2.2.2⟩
      · obtain ⟨a, b, c, d⟩ := lineW_mem hy
        exact ⟨rfl, by show 1 ≤ k; omega, by show k < k + 1; omega, a, b, c, d⟩
theorem mem_linesW {way : Nat} {F : Nat → Nat → Bool} {n s : Nat} : ∀ {k l : Nat}, 1 ≤ l → l < k → s < n → F l s = true → downTo (F l) s = s → (⟨way, l, s, runFrom (F l) n s⟩ : Wl) ∈ linesW way F n k
  | 0, l, _, h, _, _, _ => by omega
  | k + 1, l, h0, h, h1, h2, h3 => by
    by_cases he : l = k
    · subst he
      rw [linesW_succ h0, List.mem_append, List.mem_map]
      exact .inr ⟨(s, runFrom (F l) n s), mem_lineW h1 h2 h3, rfl⟩
    · unfold linesW
      have := mem_linesW (way := way) (k := k) h0 (by omega) h1 h2 h3
      split
      · exact this
      · exact List.mem_append_left _ this

theorem runFrom_congr {f g : Nat → Bool} {n s : Nat} (h : ∀ i, i < n → f i = g i) : runFrom f n s = runFrom g n s := by
  by_cases hs : s ≤ n
  · have := runFrom_le g n s
    have h1 := runFrom_eq (f := f) (n := n) (s := s) (e := s + runFrom g n s) (by omega) (by omega) (fun i a b => by rw [h i (by omega)]; exact runFrom_all a b) (fun hl => by rw [h _ hl]; exact runFrom_stop hs hl)
    omega
  · have := runFrom_le g n s; have := runFrom_le f n s; omega
theorem downTo_congr {f g : Nat → Bool} : ∀ {k : Nat}, (∀ i, i < k → f i = g i) → downTo f k = downTo g k
  | 0, _ => rfl
  | k + 1, h => by unfold downTo; rw [h k (by omega), downTo_congr (fun i hi => h i (by omega))]
theorem lineW_congr {f g : Nat → Bool} {n : Nat} (h : ∀ i, i < n → f i = g i) : ∀ t, t ≤ n → lineW f n t = lineW g n t
  | 0, _ => rfl
  | t + 1, ht => by
    unfold lineW
    rw [h t (by omega), downTo_congr (fun i hi => h i (by omega)), runFrom_congr h, lineW_congr h t (by omega)]
theorem linesW_congr {way : Nat} {F G : Nat → Nat → Bool} {n : Nat} : ∀ {k : Nat}, (∀ l i, 1 ≤ l → l < k → i < n → F l i = G l i) → linesW way F n k = linesW way G n k
  | 0, _ => rfl
  | k + 1, h => by
    unfold linesW
    split
    · exact linesW_congr (fun l i a b c => h l i a (by omega) c)
    · rw [linesW_congr (fun l i a b c => h l i a (by omega) c), lineW_congr (fun i hi => h k i (by omega) (by omega) hi) n (Nat.le_refl _)]

/-- two sides of a line -/
def upF (h : Nat) (g : Nat → Nat → Nat) (k i : Nat) : Bool := decide (i < h) && decide (g i (k - 1) ≠ g i k)
def lvF (wd : Nat) (g : Nat → Nat → Nat) (k j : Nat) : Bool := decide (j < wd) && decide (g (k - 1) j ≠ g k j)
def upW (h wd : Nat) (g : Nat → Nat → Nat) : List Wl := linesW 0 (upF h g) h wd
def lvW (h wd : Nat) (g : Nat → Nat → Nat) : List Wl := linesW 1 (lvF wd g) wd h
/-- all walls of a grid, in order -/
def wallsG (h wd : Nat) (g : Nat → Nat → Nat) : List Wl := upW h wd g ++ lvW h wd g

theorem upW_len {h wd : Nat} {g : Nat → Nat → Nat} (hh : h ≤ 6) (hw : wd ≤ 6) : (upW h wd g).length ≤ 36 :=
  Nat.le_trans (linesW_len _ _ _ _) (Nat.mul_le_mul hw hh)
theorem lvW_len {h wd : Nat} {g : Nat → Nat → Nat} (hh : h ≤ 6) (hw : wd ≤ 6) : (lvW h wd g).length ≤ 36 :=
  Nat.le_trans (linesW_len _ _ _ _) (Nat.mul_le_mul hh hw)
theorem wallsG_len {h wd : Nat} {g : Nat → Nat → Nat} (hh : h ≤ 6) (hw : wd ≤ 6) : (wallsG h wd g).length ≤ 72 := by
  unfold wallsG; rw [List.length_append]; have := upW_len (g := g) hh hw; have := lvW_len (g := g) hh hw; omega
/-- what a wall is, told by its way -/
def wayF (h wd : Nat) (g : Nat → Nat → Nat) (way k i : Nat) : Bool := if way = 0 then upF h g k i else lvF wd g k i
/-- the number of cells along lines of a way, and across them -/
def alongN (h wd way : Nat) : Nat := if way = 0 then h else wd
def acrossN (h wd way : Nat) : Nat := if way = 0 then wd else h
theorem wallsG_two (h wd : Nat) (g : Nat → Nat → Nat) : wallsG h wd g = linesW 0 (wayF h wd g 0) (alongN h wd 0) (acrossN h wd 0) ++ linesW 1 (wayF h wd g 1) (alongN h wd 1) (acrossN h wd 1) := rfl

theorem wallsG_mem {h wd : Nat} {g : Nat → Nat → Nat} {x : Wl} (hx : x ∈ wallsG h wd g) : x.way < 2 ∧ 1 ≤ x.line ∧ x.line < acrossN h wd x.way ∧ 1 ≤ x.long ∧ x.first + x.long ≤ alongN h wd x.way ∧
    (∀ i, x.first ≤ i → i < x.first + x.long → wayF h wd g x.way x.line i = true) := by
  rw [wallsG_two, List.mem_append] at hx
  have key : ∀ w, x ∈ linesW w (wayF h wd g w) (alongN h wd w) (acrossN h wd w) → x.way = w ∧ 1 ≤ x.line ∧ x.line < acrossN h wd x.way ∧ 1 ≤ x.long ∧ x.first + x.long ≤ alongN h wd x.way ∧
    (∀ i, x.first ≤ i → i < x.first + x.long → wayF h wd g x.way x.line i = true) := by
    intro w hm
    obtain ⟨a, b, c, d, e, f, g'⟩ := linesW_mem hm
    refine ⟨a, b, by rw [a]; exact c, by rw [g']; exact runFrom_pos d e, ?_, fun i h1 h2 => ?_⟩
    · have := runFrom_le (wayF h wd g w x.line) (alongN h wd w) x.first
      rw [a, g']; omega
    · rw [a]; exact runFrom_all h1 (by rw [← g']; exact h2)
  rcases hx with hx | hx
  · have := key 0 hx; exact ⟨by omega, this.2⟩
  · have := key 1 hx; exact ⟨by omega, this.2⟩

end Go.Proofs.Ytpgcpmfemcfoaaa

/-
  The program's walls: what lies on both sides of a line, where a wall begins and ends. (Walks.)
-/
namespace Go.Proofs.Ytpgcpmfemcfoaaa
open Go.RowKit

set_option maxHeartbeats 400000 in
theorem measure_any (h wd r : Nat) (g : Nat → Nat → Nat) (way : Nat) (w : World) :
    Calls Try.prog 99 #[.agg (planC h wd r g), .int .i64 way] w
      fun e w' => e = .returned (.tuple #[.int .i64 (acrossN h wd way : Nat), .int .i64 (alongN h wd way : Nat)]) ∧ Below w.heap.size w w' := by
  have hp0 := planC_0 h wd r g
  have hp1 := planC_1 h wd r g
  generalize planC h wd r g = C at *
  by_cases hw : way = 0
  · have hb : ((way : Int) == 0) = true := by simp [hw]
    have HA := Lib.hid (show acrossN h wd way = wd from if_pos hw)
    have HL := Lib.hid (show alongN h wd way = h from if_pos hw)
    clear hw
    go_enter Try.func99, Try.ntmps99
    go_wp2
    have c0 : (w.alloc (.cells C 47)).cell? ⟨w.heap.size, 0, none⟩ = some (.int .i64 h) := ((HeldB.new w _ _).cell 0).trans hp0
    have c1 : (w.alloc (.cells C 47)).cell? ⟨w.heap.size, 1, none⟩ = some (.int .i64 wd) := ((HeldB.new w _ _).cell 1).trans hp1
    go_quiet (fail)
    go_wp2
    go_ret2
    exact ⟨by rw [HA.out, HL.out]; rfl, (below_alloc _ _).trans (below_drewN _ _ _)⟩
  · have hb : ((way : Int) == 0) = false := by rw [beq_eq_false_iff_ne]; omega
    have HA := Lib.hid (show acrossN h wd way = h from if_neg hw)
    have HL := Lib.hid (show alongN h wd way = wd from if_neg hw)
    clear hw
    go_enter Try.func99, Try.ntmps99
    go_wp2
    have c0 : (w.alloc (.cells C 47)).cell? ⟨w.heap.size, 0, none⟩ = some (.int .i64 h) := ((HeldB.new w _ _).cell 0).trans hp0
    have c1 : (w.alloc (.cells C 47)).cell? ⟨w.heap.size, 1, none⟩ = some (.int .i64 wd) := ((HeldB.new w _ _).cell 1).trans hp1
    go_quiet (fail)
    go_wp2
    go_ret2
    exact ⟨by rw [HA.out, HL.out]; rfl, (below_alloc _ _).trans (below_drewN _ _ _)⟩

/-- the rooms on both sides of a line -/
def sideA (g : Nat → Nat → Nat) (way line i : Nat) : Nat := if way = 0 then g i (line - 1) else g (line - 1) i
def sideB (g : Nat → Nat → Nat) (way line i : Nat) : Nat := if way = 0 then g i line else g line i

set_option maxHeartbeats 800000 in
theorem across_any (h wd r : Nat) (g : Nat → Nat → Nat) (way line i : Nat) (w : World) (h1 : 1 ≤ line) (h2 : line < 6) (h3 : i < 6) :
    Calls Try.prog 101 #[.agg (planC h wd r g), .int .i64 way, .int .i64 line, .int .i64 i] w
      fun e w' => e = .returned (.tuple #[.int .i64 (sideA g way line i : Nat), .int .i64 (sideB g way line i : Nat)]) ∧ Below w.heap.size w w' := by
  have hl1 : (line : Int) - 1 = ((line - 1 : Nat) : Int) := by omega
  by_cases hw : way = 0
  · have hb : ((way : Int) == 0) = true := by simp [hw]
    have HA := Lib.hid (show sideA g way line i = g i (line - 1) from if_pos hw)
    have HL := Lib.hid (show sideB g way line i = g i line from if_pos hw)
    have ha := planC_at h wd r g i (line - 1) h3 (by omega)
    have hc := planC_at h wd r g i line h3 h2
    generalize planC h wd r g = C at *
    clear hw
    go_enter Try.func101, Try.ntmps101
    go_wp2
    have c0 : (w.alloc (.cells C 47)).cell? ⟨w.heap.size, 3 + i * 6 + (line - 1), none⟩ = _ := ((HeldB.new w _ _).cell _).trans ha
    have c1 : (w.alloc (.cells C 47)).cell? ⟨w.heap.size, 3 + i * 6 + line, none⟩ = _ := ((HeldB.new w _ _).cell _).trans hc
    go_quiet (fail)
    go_wp2
    go_ret2
    exact ⟨by rw [HA.out, HL.out]; rfl, (below_alloc _ _).trans (below_drewN _ _ _)⟩
  · have hb : ((way : Int) == 0) = false := by rw [beq_eq_false_iff_ne]; omega
    have HA := Lib.hid (show sideA g way line i = g (line - 1) i from if_neg hw)
    have HL := Lib.hid (show sideB g way line i = g line i from if_neg hw)
    have ha := planC_at h wd r g (line - 1) i (by omega) h3
    have hc := planC_at h wd r g line i h2 h3
    generalize planC h wd r g = C at *
    clear hw
    go_enter Try.func101, Try.ntmps101
    go_wp2
    have c0 : (w.alloc (.cells C 47)).cell? ⟨w.heap.size, 3 + (line - 1) * 6 + i, none⟩ = _ := ((HeldB.new w _ _).cell _).trans ha
    have c1 : (w.alloc (.cells C 47)).cell? ⟨w.heap.size, 3 + line * 6 + i, none⟩ = _ := ((HeldB.new w _ _).cell _).trans hc
    go_quiet (fail)
    go_wp2
    go_ret2
    exact ⟨by rw [HA.out, HL.out]; rfl, (below_alloc _ _).trans (below_drewN _ _ _)⟩

def partedB (g : Nat → Nat → Nat) (way line i : Nat) : Bool := decide (sideA g way line i ≠ sideB g way line i)

set_option maxHeartbeats 400000 in
theorem isParted_any (h wd r : Nat) (g : Nat → Nat → Nat) (way line i : Nat) (w : World) (h1 : 1 ≤ line) (h2 : line < 6) (h3 : i < 6) :
    Calls Try.prog 126 #[.agg (planC h wd r g), .int .i64 way, .int .i64 line, .int .i64 i] w
      fun e w' => e = .returned (.bool (partedB g way line i)) ∧ Below w.heap.size w w' := by
  have HAC := Lib.hid (fun w => across_any h wd r g way line i w h1 h2 h3)
  have HCS := Lib.hid (planC_size h wd r g)
  have HB := Lib.hid (show (((sideA g way line i : Nat) : Int) != ((sideB g way line i : Nat) : Int)) = partedB g way line i by
    unfold partedB; rw [Bool.eq_iff_iff, bne_iff_ne, decide_eq_true_eq]; omega)
  generalize planC h wd r g = C at *
  have hsz : (Try.prog.info? 47).map (·.size) = some C.size := by rw [HCS.out]; kernel_rfl
  have HSZ := Lib.hid hsz; clear hsz
  generalize sideA g way line i = a at *
  generalize sideB g way line i = b at *
  go_enter Try.func126, Try.ntmps126
  have hW1 := HeldB.new w 47 C
  go_wp2_with (first
    | (refine wpList_load_row rfl 47 _ rfl w.heap.size rfl 47 C (0, 0) _ hW1 Try.underlying47 rfl HSZ.out ?_)
    | (go_at_call 101; refine (HAC.out _).mono ?_; rintro e w1 ⟨rfl, hb1⟩))
  go_ret
  exact ⟨ret_bool HB.out, (below_alloc w _).trans (hb1.mono (by simp))⟩

/-- the cells of a wall -/
def wlC (x : Wl) : Array Value := #[.int .i64 (x.way : Nat), .int .i64 (x.line : Nat), .int .i64 (x.first : Nat), .int .i64 (x.long : Nat)]
theorem wlC_size (x : Wl) : (wlC x).size = 4 := rfl
theorem wlC_one (x : Wl) : (wlC x).all (·.oneCell') = true := by
  rw [Array.all_eq_true_iff_forall_mem]
  intro v hv
  unfold wlC at hv
  simp only [List.mem_toArray, List.mem_cons, List.not_mem_nil, or_false] at hv
  rcases hv with rfl | rfl | rfl | rfl <;> rfl
theorem wl_size (x : Wl) : (Try.prog.info? 108).map (·.size) = some (wlC x).size := by rw [wlC_size]; kernel_rfl
def zeroWl : Wl := ⟨0, 0, 0, 0⟩
/-- a wall and a word whether it is one, handed back -/
theorem results_wall {fn : Func} {p u : Tmp} (h : fn.results = #[.cell p 108, .tmp u]) {tmps : Array Value} {w : World} {B : Nat} {x : Wl} {v : Value}
    (hp : tmps.getD p undef = .pointer (some ⟨B, 0, none⟩)) (hB : HeldB w B 108 (wlC x)) (hv : tmps.getD u undef = v) :
    (results fn tmps).run Try.prog w = .ok (.tuple #[.agg (wlC x), v]) w := by
  rw [results_cell_tmp h, hp, hv]
  have hr := run_loadVar_row (P := Try.prog) w B 108 108 (wlC x) (0, 0) _ hB Try.underlying108 rfl (by rw [wlC_size]; kernel_rfl)
  simp [asAddr, hr, Result.andThen]

/-- the wall that a line has at a cell -/
def wallAtW (g : Nat → Nat → Nat) (n way line i : Nat) : Wl :=
  if partedB g way line i = true then ⟨way, line, downTo (partedB g way line) i, runFrom (partedB g way line) n (downTo (partedB g way line) i)⟩ else zeroWl

set_option maxRecDepth 100000 in
set_option maxHeartbeats 2000000 in
theorem wallAt_any (h wd r : Nat) (g : Nat → Nat → Nat) (way line i : Nat) (w : World) (h1 : 1 ≤ line) (h2 : line < 6) (h3 : i < alongN h wd way) (h4 : alongN h wd way ≤ 6) :
    Calls Try.prog 100 #[.agg (planC h wd r g), .int .i64 way, .int .i64 line, .int .i64 i] w
      fun e w' => e = .returned (.tuple #[.agg (wlC (wallAtW g (alongN h wd way) way line i)), .bool (partedB g way line i)]) ∧ Below w.heap.size w w' := by
  have HPA := Lib.hid (fun (k : Nat) (hk : k < 6) w => isParted_any h wd r g way line k w h1 h2 hk)
  have HME := Lib.hid (fun w => measure_any h wd r g way w)
  have HCS := Lib.hid (planC_size h wd r g)
  generalize planC h wd r g = C at *
  have hsz : (Try.prog.info? 47).map (·.size) = some C.size := by rw [HCS.out]; kernel_rfl
  have HSZ := Lib.hid hsz; clear hsz
  unfold wallAtW
  generalize partedB g way line = f at *
  generalize alongN h wd way = n at *
  generalize acrossN h wd way = m at *
  go_enter Try.func100, Try.ntmps100
  have bP : HeldB ((w.alloc (.cells C 47)).alloc (.cells #[.int .i64 0, .int .i64 0, .int .i64 0, .int .i64 0] 108)) w.heap.size 47 C := (HeldB.new w _ _).alloc _
  have bZ : HeldB ((w.alloc (.cells C 47)).alloc (.cells #[.int .i64 0, .int .i64 0, .int .i64 0, .int .i64 0] 108)) (w.heap.size + 1) 108 (wlC zeroWl) := by
    have := HeldB.new (w.alloc (.cells C 47)) 108 (wlC zeroWl)
    rwa [World.size_alloc] at this
  have hB0 : Below w.heap.size w ((w.alloc (.cells C 47)).alloc (.cells #[.int .i64 0, .int .i64 0, .int .i64 0, .int .i64 0] 108)) := ((Below.refl _ w).alloc (Nat.le_refl _) _).alloc (by simp) _
  cases hfi : f i
  · rw [if_neg (by decide)]
    go_wp2_with (first
      | (refine wpList_load_row rfl 47 _ rfl w.heap.size rfl 47 C (0, 0) _ bP Try.underlying47 rfl HSZ.out ?_)
      | (refine wpList_store_row rfl 108 _ _ rfl (w.heap.size + 1) (wlC zeroWl) rfl rfl 108 (wlC zeroWl) bZ1 (wl_size _) rfl (wlC_one _) ?_)
      | (go_at_call 126; refine (HPA.out i (by omega) _).mono ?_; rw [hfi]; rintro e w1 ⟨rfl, hb1⟩; have bZ1 := bZ.below hb1))
    refine bodyPost_ret (v := .tuple #[.agg (wlC zeroWl), .bool false]) (results_wall Try.results100 rfl (bZ1.setRow _) rfl) rfl ⟨rfl, ?_⟩
    exact below_setRowB (below_step hB0 hB0.size hb1) (by omega) _
  · rw [if_pos rfl]
    go_wp2_with (first
      | (refine wpList_load_row rfl 47 _ rfl w.heap.size rfl 47 C (0, 0) _ bP Try.underlying47 rfl HSZ.out ?_)
      | (refine wpList_load_row rfl 47 _ rfl w.heap.size rfl 47 C (0, 0) _ bP1 Try.underlying47 rfl HSZ.out ?_)
      | (go_at_call 126; refine (HPA.out i (by omega) _).mono ?_; rw [hfi]; rintro e w1 ⟨rfl, hb1⟩; have bZ1 := bZ.below hb1; have bP1 := bP.below hb1; have hB1 := below_step hB0 hB0.size hb1)
      | (go_at_call 99; refine (HME.out _).mono ?_; rintro e w2 ⟨rfl, hb2⟩; have bZ2 := bZ1.below hb2; have bP2 := bP1.below hb2; have hB2 := below_step hB1 hB1.size hb2))
    clear bP bZ hB0 bP1 bZ1 hB1
    go_loopw [12] (fun v wr => ∃ k : Nat, k ≤ i ∧ v = .int .i64 k ∧ (∀ j, k ≤ j → j < i → f j = true) ∧ HeldB wr (w.heap.size + 1) 108 (wlC zeroWl) ∧ HeldB wr w.heap.size 47 C ∧ Below w.heap.size w wr) (fun v _ => (intOf v).toNat)
    case atStart => exact ⟨i, Nat.le_refl _, rfl, (fun j a b => by omega), bZ2, bP2, hB2⟩
    case round =>
      clear bZ2 bP2 hB2 hb1 hb2
      obtain ⟨k, hk, rfl, hall, bZ3, bP3, hB3⟩ := hrel
      have HALL := Lib.hid hall; clear hall
      have hgo : ∀ (hstop : 0 < k → f (k - 1) = false), Hid (downTo f i = k) := fun hs => Lib.hid (downTo_eq hk HALL.out hs)
      by_cases hk0 : 0 < k
      · have hk1 : (k : Int) - 1 = ((k - 1 : Nat) : Int) := by omega
        cases hf : f (k - 1)
        · have HD := hgo (fun _ => hf)
          clear hgo
          go_wp2_with (first
            | (refine wpList_load_row_guard rfl 47 _ rfl w.heap.size rfl 47 C (0, 0) _ bP3 Try.underlying47 rfl HSZ.out ?_)
            | (go_at_call 126; refine (HPA.out (k - 1) (by omega) _).mono ?_; rw [hf]; rintro e w3 ⟨rfl, hb3⟩; have bZ4 := bZ3.below hb3; have bP4 := bP3.below hb3; have hB4 := below_step hB3 hB3.size hb3))
          clear bZ3 bP3 hB3 hb3
          go_loopw [13] (fun v wr => ∃ e : Nat, i + 1 ≤ e ∧ e ≤ n ∧ v = .int .i64 e ∧ (∀ j, i ≤ j → j < e → f j = true) ∧ HeldB wr (w.heap.size + 1) 108 (wlC zeroWl) ∧ HeldB wr w.heap.size 47 C ∧ Below w.heap.size w wr) (fun v _ => n - (intOf v).toNat)
          case atStart => exact ⟨i + 1, Nat.le_refl _, h3, by go_num, (fun j a b => by obtain rfl : j = i := by omega
                                                                                       exact hfi), bZ4, bP4, hB4⟩
          case round =>
            clear bZ4 bP4 hB4
            obtain ⟨e, he1, he2, rfl, hall, bZ5, bP5, hB5⟩ := hrel
            have HAL2 := Lib.hid hall; clear hall
            have hek : (e : Int) - (k : Int) = ((e - k : Nat) : Int) := by omega
            have hgo2 : ∀ (hstop : e < n → f e = false), Hid (runFrom f n k = e - k) := fun hs => Lib.hid (runFrom_eq (by omega) he2 (fun j a b => by
              rcases Nat.lt_or_ge j i with h' | h'
              · exact HALL.out j a h'
              · exact HAL2.out j h' b) hs)
            by_cases hen : e < n
            · have hen' : decide ((e : Int) < (n : Int)) = true := by rw [decide_eq_true_eq]; omega
              cases hf2 : f e
              · have HR := hgo2 (fun _ => hf2)
                clear hgo2
                go_wp2_with (first
                  | (refine wpList_load_row_guard rfl 47 _ rfl w.heap.size rfl 47 C (0, 0) _ bP5 Try.underlying47 rfl HSZ.out ?_)
                  | (refine wpList_store_row rfl 108 _ _ rfl (w.heap.size + 1) (wlC ⟨way, line, k, e - k⟩) rfl rfl 108 (wlC zeroWl) bZ6 (wl_size _) rfl (wlC_one _) ?_)
                  | (go_at_call 126; refine (HPA.out e (by omega) _).mono ?_; rw [hf2]; rintro e' w4 ⟨rfl, hb4⟩; have bZ6 := bZ5.below hb4; have hB6 := below_step hB5 hB5.size hb4))
                refine bodyPost_ret (v := .tuple #[.agg (wlC ⟨way, line, k, e - k⟩), .bool true]) (results_wall Try.results100 rfl (bZ6.setRow _) rfl) rfl ⟨by rw [HD.out, HR.out], ?_⟩
                exact below_setRowB hB6 (by omega) _
              · clear hgo2
                go_wp2_with (first
                  | (refine wpList_load_row_guard rfl 47 _ rfl w.heap.size rfl 47 C (0, 0) _ bP5 Try.underlying47 rfl HSZ.out ?_)
                  | (go_at_call 126; refine (HPA.out e (by omega) _).mono ?_; rw [hf2]; rintro e' w4 ⟨rfl, hb4⟩; have bZ6 := bZ5.below hb4; have bP6 := bP5.below hb4; have hB6 := below_step hB5 hB5.size hb4))
                go_roundw
                case rel => exact ⟨e + 1, by omega, by omega, by go_num, (fun j a b => by
                    rcases Nat.lt_or_ge j e with h' | h'
                    · exact HAL2.out j a h'
                    · obtain rfl : j = e := by omega
                      exact hf2), bZ6, bP6, hB6⟩
                case measure => simp [intOf]; omega
            · have hen' : decide ((e : Int) < (n : Int)) = false := by rw [decide_eq_false_iff_not]; omega
              have HR := hgo2 (fun h' => absurd h' hen)
              clear hgo2
              go_wp2_with (refine wpList_store_row rfl 108 _ _ rfl (w.heap.size + 1) (wlC ⟨way, line, k, e - k⟩) rfl rfl 108 (wlC zeroWl) bZ5 (wl_size _) rfl (wlC_one _) ?_)
              refine bodyPost_ret (v := .tuple #[.agg (wlC ⟨way, line, k, e - k⟩), .bool true]) (results_wall Try.results100 rfl (bZ5.setRow _) rfl) rfl ⟨by rw [HD.out, HR.out], ?_⟩
              exact below_setRowB hB5 (by omega) _
        · clear hgo
          go_wp2_with (first
            | (refine wpList_load_row_guard rfl 47 _ rfl w.heap.size rfl 47 C (0, 0) _ bP3 Try.underlying47 rfl HSZ.out ?_)
            | (go_at_call 126; refine (HPA.out (k - 1) (by omega) _).mono ?_; rw [hf]; rintro e w3 ⟨rfl, hb3⟩; have bZ4 := bZ3.below hb3; have bP4 := bP3.below hb3; have hB4 := below_step hB3 hB3.size hb3))
          go_roundw
          case rel => exact ⟨k - 1, by omega, by go_num, (fun j a b => by
              rcases Nat.lt_or_ge j k with h' | h'
              · obtain rfl : j = k - 1 := by omega
                exact hf
              · exact HALL.out j h' b), bZ4, bP4, hB4⟩
          case measure => simp [intOf]; omega
      · have HD := hgo (fun h' => absurd h' hk0)
        clear hgo
        go_wp2
        go_loopw [13] (fun v wr => ∃ e : Nat, i + 1 ≤ e ∧ e ≤ n ∧ v = .int .i64 e ∧ (∀ j, i ≤ j → j < e → f j = true) ∧ HeldB wr (w.heap.size + 1) 108 (wlC zeroWl) ∧ HeldB wr w.heap.size 47 C ∧ Below w.heap.size w wr) (fun v _ => n - (intOf v).toNat)
        case atStart => exact ⟨i + 1, Nat.le_refl _, h3, by go_num, (fun j a b => by obtain rfl : j = i := by omega
                                                                                     exact hfi), bZ3, bP3, hB3⟩
        case round =>
          clear bZ3 bP3 hB3
          obtain ⟨e, he1, he2, rfl, hall, bZ5, bP5, hB5⟩ := hrel
          have HAL2 := Lib.hid hall; clear hall
          have hek : (e : Int) - (k : Int) = ((e - k : Nat) : Int) := by omega
          have hgo2 : ∀ (hstop : e < n → f e = false), Hid (runFrom f n k = e - k) := fun hs => Lib.hid (runFrom_eq (by omega) he2 (fun j a b => by
            rcases Nat.lt_or_ge j i with h' | h'
            · exact HALL.out j a h'
            · exact HAL2.out j h' b) hs)
          by_cases hen : e < n
          · have hen' : decide ((e : Int) < (n : Int)) = true := by rw [decide_eq_true_eq]; omega
            cases hf2 : f e
            · have HR := hgo2 (fun _ => hf2)
              clear hgo2
              go_wp2_with (first
                | (refine wpList_load_row_guard rfl 47 _ rfl w.heap.size rfl 47 C (0, 0) _ bP5 Try.underlying47 rfl HSZ.out ?_)
                | (refine wpList_store_row rfl 108 _ _ rfl (w.heap.size + 1) (wlC ⟨way, line, k, e - k⟩) rfl rfl 108 (wlC zeroWl) bZ6 (wl_size _) rfl (wlC_one _) ?_)
                | (go_at_call 126; refine (HPA.out e (by omega) _).mono ?_; rw [hf2]; rintro e' w4 ⟨rfl, hb4⟩; have bZ6 := bZ5.below hb4; have hB6 := below_step hB5 hB5.size hb4))
              refine bodyPost_ret (v := .tuple #[.agg (wlC ⟨way, line, k, e - k⟩), .bool true]) (results_wall Try.results100 rfl (bZ6.setRow _) rfl) rfl ⟨by rw [HD.out, HR.out], ?_⟩
              exact below_setRowB hB6 (by omega) _
            · clear hgo2
              go_wp2_with (first
                | (refine wpList_load_row_guard rfl 47 _ rfl w.heap.size rfl 47 C (0, 0) _ bP5 Try.underlying47 rfl HSZ.out ?_)
                | (go_at_call 126; refine (HPA.out e (by omega) _).mono ?_; rw [hf2]; rintro e' w4 ⟨rfl, hb4⟩; have bZ6 := bZ5.below hb4; have bP6 := bP5.below hb4; have hB6 := below_step hB5 hB5.size hb4))
              go_roundw
              case rel => exact ⟨e + 1, by omega, by omega, by go_num, (fun j a b => by
                  rcases Nat.lt_or_ge j e with h' | h'
                  · exact HAL2.out j a h'
                  · obtain rfl : j = e := by omega
                    exact hf2), bZ6, bP6, hB6⟩
              case measure => simp [intOf]; omega
          · have hen' : decide ((e : Int) < (n : Int)) = false := by rw [decide_eq_false_iff_not]; omega
            have HR := hgo2 (fun h' => absurd h' hen)
            clear hgo2
            go_wp2_with (refine wpList_store_row rfl 108 _ _ rfl (w.heap.size + 1) (wlC ⟨way, line, k, e - k⟩) rfl rfl 108 (wlC zeroWl) bZ5 (wl_size _) rfl (wlC_one _) ?_)
            refine bodyPost_ret (v := .tuple #[.agg (wlC ⟨way, line, k, e - k⟩), .bool true]) (results_wall Try.results100 rfl (bZ5.setRow _) rfl) rfl ⟨by rw [HD.out, HR.out], ?_⟩
            exact below_setRowB hB5 (by omega) _

end Go.Proofs.Ytpgcpmfemcfoaaa

/-
  Slices of the call's own whose elements are several cells: append, reading. (No function of the program is named.)
-/
namespace Go.Proofs.Ytpgcpmfemcfoaaa
open Go.RowKit

theorem ownsRow_shape {w : World} {base : Nat} {e : TypeId} {size : Nat} {v : Value} {n : Nat} {xs : List Value} (h : w.ownsRow base e size v n xs) : ∃ ao cap, v = .slice ao n cap := by
  rcases h.2 with ⟨rfl, rfl⟩ | ⟨g, cap, _, rfl, _⟩
  · exact ⟨none, 0, rfl⟩
  · exact ⟨_, cap, rfl⟩

theorem ownsK_cells {w : World} {base : Nat} {e : TypeId} {size : Nat} {ao : Option Addr} {m cap n : Nat} {xs : List Value} (h : w.ownsRow base e size (.slice ao m cap) n xs) : CellsAt w ao xs := fun i u hu => by
  rcases h.2 with ⟨hv, hn⟩ | ⟨g, cap', cur, hv, hb, hg, _⟩
  · have hl := h.1
    rw [hn, Nat.zero_mul] at hl
    rw [List.eq_nil_of_length_eq_zero hl] at hu; simp at hu
  · have hv' := hv
    simp only [Value.slice.injEq] at hv'
    obtain ⟨rfl, _, rfl⟩ := hv'
    refine ⟨g, 0, rfl, ?_⟩
    have := h.cells (g := g) rfl i u hu
    rwa [Addr.add_lit] at this

theorem run_pushK {P : Program} (w : World) (base : Nat) (t ty e : TypeId) (i : TypeInfo) (z : Value) (size bytes : Nat) (ht : P.underlying t = some (.slice e)) (hi : P.info? e = some i) (hz : i.zero = some z)
    (hsize : i.size = size) (hby : i.bytes = bytes) (hzs : z.cells.size = size) (hs0 : 0 < size) (ao : Option Addr) (n cap : Nat) (xs : List Value) (hown : w.ownsRow base e size (.slice ao n cap) n xs)
    (us : List Value) (m g off c : Nat) (hm : 0 < m) (hl : us.length = m * size) (hu : ∀ j v, us[j]? = some v → w.cell? ⟨g, off + j, none⟩ = some v) (h1 : ∀ v ∈ us, v.oneCell' = true) (h63 : n + m ≤ maxLen) (hbytes : (n + m) * bytes ≤ 140737488355328) (hbase : base ≤ w.heap.size) :
    ∃ ao' cap' w', (Builtin.append_ #[t, t] ty #[.slice ao n cap, .slice (some ⟨g, off, none⟩) m c]).run P w = .ok (.slice ao' (n + m) cap') w' ∧ w'.ownsRow base e size (.slice ao' (n + m) cap') (n + m) (xs ++ us) ∧
      w.grownBy w' (Value.ownBlock (.slice ao n cap)) ∧ NewOr w ao ao' := by
  have hnews : ∀ (j : Nat) (v : Value), us[j]? = some v → w.cell? ((⟨g, off, none⟩ : Addr).add j) = some v := fun j v hv => by
    rw [Addr.add_lit]
    exact hu j v hv
  obtain ⟨v', w', hr, hown', hg, _⟩ := run_append_own (P := P) w base t ty e i z size bytes ht hi hz hsize hby hzs hs0 _ n xs hown ⟨g, off, none⟩ m c us hl hnews h1 h63 hbytes hbase
  obtain ⟨ao', cap', rfl⟩ := ownsRow_shape hown'
  refine ⟨ao', cap', w', hr, hown', hg, ?_⟩
  intro a' ha'
  subst ha'
  rcases hown.2 with ⟨hv, rfl⟩ | ⟨g0, cap0, cur, hv, hbg, hgg, hnc, hcm, hcs, htake⟩
  · simp only [Value.slice.injEq] at hv
    obtain ⟨rfl, _, rfl⟩ := hv
    right
    have hx : xs = [] := List.eq_nil_of_length_eq_zero (by have := hown.1; rw [Nat.zero_mul] at this; exact this)
    subst hx
    have hr' := run_append_nil (P := P) w t ty e i z ht hi hz ⟨g, off, none⟩ m c us (by rw [hsize]; exact hl) hnews hm (by simp only [maxLen] at h63; omega) (by rw [hby]; rw [Nat.zero_add] at hbytes; omega)
    rw [hr'] at hr
    simp only [Result.ok.injEq, Value.slice.injEq, Option.some.injEq] at hr
    have := hr.1.1
    rw [← this]
    exact Nat.le_refl _
  · simp only [Value.slice.injEq] at hv
    obtain ⟨rfl, _, rfl⟩ := hv
    by_cases hroom : n + m ≤ cap
    · left
      have hr' := run_append_room (P := P) w t ty e i ht hi g0 n cap cur hgg ⟨g, off, none⟩ m c us (by rw [hsize]; exact hl) hnews h1 hroom (by rw [hsize, hl, hcs, ← Nat.add_mul]; exact Nat.mul_le_mul_right _ hroom)
      rw [hr'] at hr
      simp only [Result.ok.injEq, Value.slice.injEq] at hr
      exact hr.1.1
    · right
      have holds : ∀ j v, xs[j]? = some v → w.cell? ((⟨g0, 0, none⟩ : Addr).add j) = some v := hown.cells (g := g0) rfl
      have hr' := run_append_grow (P := P) w t ty e i z ht hi hz ⟨g0, 0, none⟩ n cap xs (by rw [hsize]; exact hown.1) holds ⟨g, off, none⟩ m c us (by rw [hsize]; exact hl) hnews (by omega) (by simp only [maxLen] at h63; omega) (growslice_fits (by simp only [maxLen] at h63; omega) (by rw [hby]; exact hbytes))
      rw [hr'] at hr
      simp only [Result.ok.injEq, Value.slice.injEq, Option.some.injEq] at hr
      rw [← hr.1.1]
      exact Nat.le_refl _

theorem wpList_pushK {P : Program} (w : World) {ops : Array Oper} {rest : List Oper} {o : Oper} {a : Act} {Q : Exit → Act → World → Prop} (hgd : o.guard = none) (s x : Operand) (t : TypeId)
    (ho : o.op = .call { callee := .builtin .append, args := #[s, x], argTypes := #[t, t] })
    (base : Nat) (e : TypeId) (i : TypeInfo) (z : Value) (size bytes : Nat) (ht : P.underlying t = some (.slice e)) (hi : P.info? e = some i) (hz : i.zero = some z)
    (hsize : i.size = size) (hby : i.bytes = bytes) (hzs : z.cells.size = size) (hs0 : 0 < size) (ao : Option Addr) (n cap : Nat) (xs : List Value) (hs : a.eval s = .slice ao n cap) (hown : w.ownsRow base e size (.slice ao n cap) n xs)
    (us : List Value) (m g off c : Nat) (hx : a.eval x = .slice (some ⟨g, off, none⟩) m c) (hm : 0 < m) (hl : us.length = m * size) (hu : ∀ j v, us[j]? = some v → w.cell? ⟨g, off + j, none⟩ = some v) (h1 : ∀ v ∈ us, v.oneCell' = true) (h63 : n + m ≤ maxLen) (hbytes : (n + m) * bytes ≤ 140737488355328) (hbase : base ≤ w.heap.size)
    (h : ∀ ao' cap' w', w'.ownsRow base e size (.slice ao' (n + m) cap') (n + m) (xs ++ us) → w.grownBy w' (Value.ownBlock (.slice ao n cap)) → NewOr w ao ao' → wpList P ops Q rest (a.put o.dst (.slice ao' (n + m) cap')) w') : wpList P ops Q (o :: rest) a w := by
  refine wpList_plain hgd fun K hK' => ?_
  obtain ⟨ao', cap', w', hrun, r1, r2, r3⟩ := run_pushK (P := P) w base t o.type e i z size bytes ht hi hz hsize hby hzs hs0 ao n cap xs hown us m g off c hm hl hu h1 h63 hbytes hbase
  unfold Oper.wp
  simp [execOp, ho, resolve, invoke, builtin, hs, hx, hrun, Result.andThen]
  exact hK' _ _ (h ao' cap' w' r1 r2 r3)

/-- the cells of a block that has just been made -/
theorem cells_new (w : World) (C : Array Value) (t : TypeId) : ∀ j v, C.toList[j]? = some v → (w.alloc (.cells C t)).cell? ⟨w.heap.size, 0 + j, none⟩ = some v := fun j v hv => by
  rw [Nat.zero_add, (HeldB.new w t C).cell j, ← hv]
  simp

theorem kept_own {W W' : World} {B : Nat} {t : TypeId} {cs : Array Value} {ao : Option Addr} {m cap : Nat} (h : HeldB W B t cs) (hg : W.grownBy W' (Value.ownBlock (.slice ao m cap))) (hne : ∀ a, ao = some a → a.block ≠ B) : HeldB W' B t cs :=
  h.kept hg (by
    cases ao with
    | none => simp [Value.ownBlock]
    | some a => simp only [Value.ownBlock, ne_eq, Option.some.injEq]; exact fun e => hne a rfl e.symm)
theorem owns_setRow {w : World} {base : Nat} {e : TypeId} {size : Nat} {ao : Option Addr} {m cap n : Nat} {xs : List Value} {B : Nat} (h : w.ownsRow base e size (.slice ao m cap) n xs) (hne : ∀ a, ao = some a → a.block ≠ B) (cs : Array Value) : (w.setRow B cs).ownsRow base e size (.slice ao m cap) n xs := by
  refine ⟨h.1, ?_⟩
  rcases h.2 with hn | ⟨g, cap', cur, hv, hbg, hgg, rest⟩
  · exact .inl hn
  · have hv' := hv
    simp only [Value.slice.injEq] at hv'
    refine .inr ⟨g, cap', cur, hv, hbg, ?_, rest⟩
    rw [setRow_other w B g cs (fun e => hne _ hv'.1 (by rw [e]))]
    exact hgg
theorem grown_lt {w : World} {ao ao' : Option Addr} {B : Nat} (hn : NewOr w ao ao') (h : ∀ a, ao = some a → a.block ≠ B) (hB : B < w.heap.size) : ∀ a, ao' = some a → a.block ≠ B := fun a ha => by
  rcases hn a ha with h' | h'
  · exact h a h'
  · omega

theorem below_of_grownBy' {B : Nat} {W w w' : World} {ao : Option Addr} {m cap : Nat} (hb : Below B W w) (hg : w.grownBy w' (Value.ownBlock (.slice ao m cap))) (hne : ∀ a, ao = some a → B ≤ a.block) (hB : B ≤ W.heap.size := by omega) : Below B W w' :=
  hb.trans (below_of_grownBy hg (Nat.le_trans hB hb.size) (fun k hk => by
    cases ao with
    | none => simp [Value.ownBlock] at hk
    | some a => simp only [Value.ownBlock, Option.some.injEq] at hk; subst hk; exact hne a rfl))

theorem CellsAt.setOther {w : World} {ao : Option Addr} {xs : List Value} (h : CellsAt w ao xs) {p : Addr} (hne : ∀ a, ao = some a → a.block ≠ p.block) (v : Value) : CellsAt (w.setCell p v) ao xs := fun i u hu => by
  obtain ⟨b, off, rfl, hc⟩ := h i u hu
  exact ⟨b, off, rfl, (World.cell?_of_block (a := ⟨b, off + i, none⟩) (Below.heap_setCell w p v b (hne _ rfl))).trans hc⟩

/-- two values compared, whatever the test -/
theorem wpList_bin {P : Program} {w : World} {ops : Array Oper} {rest : List Oper} {o : Oper} {a : Act} {Q : Exit → Act → World → Prop} (hw : Region.wanted o (yielded ops a.tmps) = true) (op : BinOp) (t t2 : TypeId) (x y : Operand) (ho : o.op = .binOp op t x y t2) (v : Value)
    (hgd : (eqGuard op t x y (a.eval x) (a.eval y)).run P w = .ok () w) (hrun : (binOp op t (a.eval x) (a.eval y)).run P w = .ok v w) (h : wpList P ops Q rest (a.put o.dst v) w) : wpList P ops Q (o :: rest) a w :=
  wpList_step fun K hK => by
    rw [if_pos hw]
    unfold Oper.wp
    simp [execOp, ho, hgd, hrun, Result.andThen]
    exact hK _ _ h

/-- a slice of one element that is an aggregate -/
theorem wpList_build1 {P : Program} {w : World} {ops : Array Oper} {rest : List Oper} {o : Oper} {a : Act} {Q : Exit → Act → World → Prop} (hgd : o.guard = none) (t e : TypeId) (x : Operand) (ho : o.op = .buildSlice t 1 #[(0, x)]) (cs : Array Value)
    (hx : a.eval x = .agg cs) (hrun : (Instr.buildSlice t 1 #[(0, .agg cs)]).run P w = .ok (.slice (some ⟨w.heap.size, 0, none⟩) 1 1) (w.alloc (.cells cs e)))
    (h : wpList P ops Q rest (a.put o.dst (.slice (some ⟨w.heap.size, 0, none⟩) 1 1)) (w.alloc (.cells cs e))) : wpList P ops Q (o :: rest) a w := by
  refine wpList_plain hgd fun K hK' => ?_
  unfold Oper.wp
  simp [execOp, ho, hx, hrun, Result.andThen]
  exact hK' _ _ h

end Go.Proofs.Ytpgcpmfemcfoaaa

/-
  The program's walls, all of them, in order. (Walk.)
-/
namespace Go.Proofs.Ytpgcpmfemcfoaaa
open Go.RowKit

/-- two walls are not the same -/
def neW (x y : Wl) : Bool := !(decide (x.way = y.way) && decide (x.line = y.line) && decide (x.first = y.first) && decide (x.long = y.long))
theorem neW_self (x : Wl) : neW x x = false := by simp [neW]
theorem neW_first {x y : Wl} (h : x.first ≠ y.first) : neW x y = true := by simp [neW, h]
theorem neW_line {x y : Wl} (h : x.line ≠ y.line) : neW x y = true := by simp [neW, h]
theorem neW_iff {x y : Wl} : neW x y = false ↔ x = y := by
  constructor
  · intro h
    cases x; cases y
    simp [neW] at h
    simp [h]
  · rintro rfl; exact neW_self x

theorem run_neq_wl (x y : Wl) (w : World) : (binOp .neq 108 (.agg (wlC x)) (.agg (wlC y))).run Try.prog w = .ok (.bool (neW x y)) w := by
  have u3 := Try.underlying3
  have a3 := Try.isAgg3
  have z3 := Try.sizeOf3
  have hS : Try.prog.underlying 108 = some (.struct (Try.prog.fieldsOf 108)) := by kernel_rfl
  have hp : Try.prog.stoodInHeld 108 = false := by kernel_rfl
  have h : (Op.equalIn 10000 108 (.agg (wlC x)) (.agg (wlC y))).run Try.prog w = .ok (!neW x y) w := by
    rw [show (10000 : Nat) = 9999 + 1 from rfl, run_equalIn_agg w 9999 108 _ _ hS hp]
    simp only [Program.fieldsOf, Try.underlying108, wlC]
    go_simp
    unfold neW
    by_cases h1 : x.way = y.way <;> by_cases h2 : x.line = y.line <;> by_cases h3 : x.first = y.first <;> by_cases h4 : x.long = y.long <;> simp [h1, h2, h3, h4] <;> omega
  simp only [binOp]
  simp [Op.equal, Op.maxDepth, h]

theorem Try.guardWl : Try.prog.eqGuardType Try.prog.depth 108 = false := by kernel_rfl
theorem guard_wl (op : BinOp) (x y : Operand) (A B : Array Value) (w : World) : (eqGuard op 108 x y (.agg A) (.agg B)).run Try.prog w = .ok () w := by
  unfold eqGuard
  cases op <;> first | (simp; done) | simp [Try.guardWl]

def wlsC (L : List Wl) : List Value := L.flatMap fun x => (wlC x).toList
theorem wlsC_snoc (L : List Wl) (x : Wl) : wlsC (L ++ [x]) = wlsC L ++ (wlC x).toList := by simp [wlsC]
theorem wlsC_at (L : List Wl) (k j : Nat) (hk : k < L.length) (hj : j < 4) : (wlsC L)[k * 4 + j]? = (wlC (L.getD k zeroWl))[j]? := by
  induction L generalizing k with
  | nil => simp at hk
  | cons x L ih =>
    unfold wlsC at ih ⊢
    rw [List.flatMap_cons]
    cases k with
    | zero => rw [Nat.zero_mul, Nat.zero_add, List.getElem?_append_left (by simp [wlC]; omega)]; simp
    | succ k =>
      rw [List.getElem?_append_right (by simp [wlC]; omega), show (k + 1) * 4 + j - (wlC x).toList.length = k * 4 + j from by simp [wlC]; omega]
      rw [ih k (by simp at hk; omega)]
      simp

/-- the walls of one line, told by its runs -/
def lineL (way k : Nat) (l : List (Nat × Nat)) : List Wl := l.map fun x => ⟨way, k, x.1, x.2⟩
def lastW (way k : Nat) (l : List (Nat × Nat)) : Wl := match l.getLast? with | some x => ⟨way, k, x.1, x.2⟩ | none => zeroWl

theorem wall_no {g : Nat → Nat → Nat} {n way k j : Nat} (h : partedB g way k j = false) : lineW (partedB g way k) n (j + 1) = lineW (partedB g way k) n j := lineW_no h
theorem wall_new {g : Nat → Nat → Nat} {n way k j : Nat} (hk : 1 ≤ k) (h : partedB g way k j = true) (hd : downTo (partedB g way k) j = j) :
    lineL way k (lineW (partedB g way k) n (j + 1)) = lineL way k (lineW (partedB g way k) n j) ++ [wallAtW g n way k j] ∧ lastW way k (lineW (partedB g way k) n (j + 1)) = wallAtW g n way k j ∧
    neW (wallAtW g n way k j) (lastW way k (lineW (partedB g way k) n j)) = true := by
  have hw : wallAtW g n way k j = ⟨way, k, j, runFrom (partedB g way k) n j⟩ := by unfold wallAtW; rw [if_pos h, hd]
  rw [hw, lineW_new h hd]
  refine ⟨by simp [lineL], by simp [lastW], ?_⟩
  unfold lastW
  split
  · rename_i x hx
    have := lineW_mem (List.mem_of_getLast? hx)
    exact neW_first (by show j ≠ x.1; omega)
  · exact neW_line (by show k ≠ 0; omega)
theorem wall_on {g : Nat → Nat → Nat} {n way k j : Nat} (h : partedB g way k j = true) (hd : ¬ downTo (partedB g way k) j = j) :
    lineW (partedB g way k) n (j + 1) = lineW (partedB g way k) n j ∧ neW (wallAtW g n way k j) (lastW way k (lineW (partedB g way k) n j)) = false := by
  refine ⟨lineW_on hd, ?_⟩
  have hj : 0 < j := by
    rcases Nat.eq_zero_or_pos j with rfl | h'
    · exact absurd rfl hd
    · exact h'
  have hp : partedB g way k (j - 1) = true := by
    cases hf : partedB g way k (j - 1)
    · exact absurd (downTo_here (.inr hf)) hd
    · rfl
  obtain ⟨init, hi⟩ := lineW_last (n := n) j hj hp
  rw [neW_iff, hi]
  unfold wallAtW lastW
  rw [if_pos h]
  simp

/-- the walls of the ways ahead of one -/
def waysW (h wd : Nat) (g : Nat → Nat → Nat) : Nat → List Wl
  | 0 => []
  | t + 1 => waysW h wd g t ++ linesW t (partedB g t) (alongN h wd t) (acrossN h wd t)

theorem waysW_two (h wd : Nat) (g : Nat → Nat → Nat) : waysW h wd g 2 = wallsG h wd g := by
  unfold waysW waysW waysW
  rw [List.nil_append, wallsG_two]
  congr 1
  · refine linesW_congr fun l i _ _ hi => ?_
    unfold wayF upF partedB sideA sideB
    simp only [if_true]
    rw [show alongN h wd 0 = h from rfl] at hi
    simp [hi]
  · refine linesW_congr fun l i _ _ hi => ?_
    unfold wayF lvF partedB sideA sideB
    rw [show alongN h wd 1 = wd from rfl] at hi
    simp [hi]

theorem linesP_step (way k : Nat) (F : Nat → Nat → Bool) (n : Nat) (hk : 1 ≤ k) : linesW way F n (k + 1) = linesW way F n k ++ lineL way k (lineW (F k) n n) := linesW_succ hk

theorem waysW_len {h wd : Nat} {g : Nat → Nat → Nat} (hh : h ≤ 6) (hw : wd ≤ 6) : ∀ t, (waysW h wd g t).length ≤ t * 36
  | 0 => Nat.le_refl _
  | t + 1 => by
    have := waysW_len (g := g) hh hw t
    unfold waysW
    rw [List.length_append, Nat.succ_mul]
    have h2 := linesW_len t (partedB g t) (alongN h wd t) (acrossN h wd t)
    have h3 : acrossN h wd t * alongN h wd t ≤ 6 * 6 := Nat.mul_le_mul (by unfold acrossN; split <;> omega) (by unfold alongN; split <;> omega)
    omega

theorem Try.infoWl : (Try.prog.info? 108).map (fun i => (i.zero, i.size, i.bytes)) = some (some (.agg (wlC zeroWl)), 4, 32) := by kernel_rfl

theorem build_wl (X : Wl) (w : World) : (Instr.buildSlice 105 1 #[(0, .agg (wlC X))]).run Try.prog w = .ok (.slice (some ⟨w.heap.size, 0, none⟩) 1 1) (w.alloc (.cells (wlC X) 108)) := by
  obtain ⟨iw, hwi, hwz, hw1, hw2⟩ := info_parts Try.infoWl
  exact run_buildSlice w _ _ 1 _ (wlC X) iw _ Try.underlying105 hwi hwz (by rw [hw1]; decide) (by rw [hw1]; decide) (by rw [hw1]; kernel_rfl)

theorem wlC_ones {X : Wl} : ∀ v ∈ (wlC X).toList, v.oneCell' = true := fun v hv => by
  have := Array.all_eq_true_iff_forall_mem.1 (wlC_one X) v (by simpa using hv)
  exact this

/-- what lies in memory while walls are gathered -/
def WallsSt (w : World) (C : Array Value) (L : List Wl) (ro : Option Addr) (rc : Nat) (wr : World) : Prop :=
  wr.ownsRow (w.heap.size + 2) 108 4 (.slice ro L.length rc) L.length (wlsC L) ∧ HeldB wr w.heap.size 47 C ∧ HeldB wr (w.heap.size + 1) 3 #[.int .i64 0, .int .i64 1] ∧ w.heap.size + 2 ≤ wr.heap.size ∧ Below w.heap.size w wr

theorem WallsSt.below {w : World} {C : Array Value} {L : List Wl} {ro : Option Addr} {rc : Nat} {wr w1 : World} (h : WallsSt w C L ro rc wr) (hb : Below wr.heap.size wr w1) : WallsSt w C L ro rc w1 :=
  ⟨ownsRow_below h.1 hb, h.2.1.below hb, h.2.2.1.below hb, Nat.le_trans h.2.2.2.1 hb.size, below_step h.2.2.2.2 h.2.2.2.2.size hb⟩
theorem WallsSt.plan {w : World} {C : Array Value} {L : List Wl} {ro : Option Addr} {rc : Nat} {wr : World} (h : WallsSt w C L ro rc wr) : HeldB wr w.heap.size 47 C := h.2.1
theorem WallsSt.eq {w : World} {C : Array Value} {L L' : List Wl} {ro : Option Addr} {rc : Nat} {wr : World} (h : WallsSt w C L ro rc wr) (he : L = L') : WallsSt w C L' ro rc wr := he ▸ h

set_option maxRecDepth 100000 in
set_option maxHeartbeats 4000000 in
theorem walls_any (h wd r : Nat) (g : Nat → Nat → Nat) (w : World) (hh : h ≤ 6) (hw : wd ≤ 6) :
    Calls Try.prog 69 #[.agg (planC h wd r g)] w
      fun e w' => ∃ ro rc, e = .returned (.slice ro (wallsG h wd g).length rc) ∧ w'.ownsRow w.heap.size 108 4 (.slice ro (wallsG h wd g).length rc) (wallsG h wd g).length (wlsC (wallsG h wd g)) ∧ Below w.heap.size w w' := by
  obtain ⟨iw, hwi, hwz, hw1, hw2⟩ := info_parts Try.infoWl
  have HME := Lib.hid (fun way w => measure_any h wd r g way w)
  have HWA := Lib.hid (fun (way line i : Nat) (h1 : 1 ≤ line) (h2 : line < 6) (h3 : i < alongN h wd way) (h4 : alongN h wd way ≤ 6) w => wallAt_any h wd r g way line i w h1 h2 h3 h4)
  have HCS := Lib.hid (planC_size h wd r g)
  have HAL := Lib.hid (fun t => (show alongN h wd t ≤ 6 by unfold alongN; split <;> omega))
  have HAC := Lib.hid (fun t => (show acrossN h wd t ≤ 6 by unfold acrossN; split <;> omega))
  have HLE := Lib.hid (fun t => waysW_len (g := g) hh hw t)
  rw [← waysW_two]
  generalize planC h wd r g = C at *
  have hsz : (Try.prog.info? 47).map (·.size) = some C.size := by rw [HCS.out]; kernel_rfl
  have HSZ := Lib.hid hsz; clear hsz
  go_enter Try.func69, Try.ntmps69
  go_wp2
  have bP : HeldB ((w.alloc (.cells C 47)).alloc (.cells #[.int .i64 0, .int .i64 1] 3)) w.heap.size 47 C := (HeldB.new w _ _).alloc _
  have bZ : HeldB ((w.alloc (.cells C 47)).alloc (.cells #[.int .i64 0, .int .i64 1] 3)) (w.heap.size + 1) 3 #[.int .i64 0, .int .i64 1] := by
    have := HeldB.new (w.alloc (.cells C 47)) 3 #[.int .i64 0, .int .i64 1]
    rwa [World.size_alloc] at this
  have hB0 : Below w.heap.size w ((w.alloc (.cells C 47)).alloc (.cells #[.int .i64 0, .int .i64 1] 3)) := ((Below.refl _ w).alloc (Nat.le_refl _) _).alloc (by simp) _
  have hs0 : w.heap.size + 2 ≤ ((w.alloc (.cells C 47)).alloc (.cells #[.int .i64 0, .int .i64 1] 3)).heap.size := by simp
  go_loopw [3, 15] (fun vs vt wr => ∃ (t : Nat) (ro : Option Addr) (rc : Nat), t ≤ 2 ∧ vt = .int .i64 t ∧ vs = .slice ro (waysW h wd g t).length rc ∧ WallsSt w C (waysW h wd g t) ro rc wr) (fun _ vt _ => 2 - (intOf vt).toNat)
  case atStart => exact ⟨0, none, 0, by omega, rfl, rfl, ⟨rfl, .inl ⟨rfl, rfl⟩⟩, bP, bZ, hs0, hB0⟩
  case round =>
    clear bP bZ hB0 hs0
    obtain ⟨t, ro, rc, ht, rfl, rfl, hst⟩ := hrel
    by_cases htl : t < 2
    · have bP := hst.plan
      have ct : wr.cell? ⟨w.heap.size + 1, t, none⟩ = some (.int .i64 t) := by
        rw [hst.2.2.1.cell t]
        rcases (show t = 0 ∨ t = 1 by omega) with rfl | rfl <;> rfl
      have htl' : decide ((t : Int) < 2) = true := by rw [decide_eq_true_eq]; omega
      go_wp2_with (first
        | (refine wpList_load_row rfl 47 _ rfl w.heap.size rfl 47 C (0, 0) _ bP Try.underlying47 rfl HSZ.out ?_)
        | (go_at_call 99; refine (HME.out t _).mono ?_; rintro e w1 ⟨rfl, hb1⟩))
      have hst1 := hst.below hb1
      have hA := HLE.out t
      have hn := HAL.out t
      have hm := HAC.out t
      have HWT := Lib.hid (show waysW h wd g (t + 1) = waysW h wd g t ++ linesW t (partedB g t) (alongN h wd t) (acrossN h wd t) from rfl)
      have HWA2 := Lib.hid (fun (line i : Nat) (h1 : 1 ≤ line) (h2 : line < 6) (h3 : i < alongN h wd t) w => HWA.out t line i h1 h2 h3 (HAL.out t) w)
      clear bP ct hst hb1 htl'
      generalize waysW h wd g t = A at *
      generalize alongN h wd t = n at *
      generalize acrossN h wd t = m at *
      have HLL := Lib.hid (fun k => linesW_len t (partedB g t) n k)
      obtain ⟨W1, hW1⟩ : ∃ W1, W1 = w1 := ⟨_, rfl⟩
      go_loopw [3, 8] (fun vs vk wq => ∃ (k : Nat) (ro : Option Addr) (rc : Nat), 1 ≤ k ∧ (k ≤ m ∨ k = 1) ∧ vk = .int .i64 k ∧ vs = .slice ro (A ++ linesW t (partedB g t) n k).length rc ∧ WallsSt w C (A ++ linesW t (partedB g t) n k) ro rc wq) (fun _ vk _ => m - (intOf vk).toNat)
      case atStart => exact ⟨1, ro, rc, Nat.le_refl _, .inr rfl, rfl, by rw [linesW_one, List.append_nil], by rw [linesW_one, List.append_nil]; exact hst1⟩
      case round =>
        clear hst1
        obtain ⟨k, ro, rc, hk1, hk2, rfl, rfl, hst⟩ := hrel
        obtain ⟨wq, rfl⟩ : ∃ wq, wq = wr := ⟨_, rfl⟩
        by_cases hkm : k < m
        · have hkm' : decide ((k : Int) < (m : Int)) = true := by rw [decide_eq_true_eq]; omega
          have HSTP := Lib.hid (linesP_step t k (partedB g t) n hk1)
          have hLk := HLL.out k
          have hkn : k * n ≤ 5 * 6 := Nat.mul_le_mul (by omega) hn
          have hAk : (A ++ linesW t (partedB g t) n k).length ≤ 100 := by rw [List.length_append]; omega
          generalize hBL : A ++ linesW t (partedB g t) n k = BL at *
          have HBL := Lib.hid hBL; clear hBL
          have hqs := hst.2.2.2.1
          go_wp2
          go_loopw [3, 31] (fun vs vj wm => ∃ (j : Nat) (ro : Option Addr) (rc : Nat), j ≤ n ∧ vj = .int .i64 j ∧ vs = .slice ro (BL ++ lineL t k (lineW (partedB g t k) n j)).length rc ∧ WallsSt w C (BL ++ lineL t k (lineW (partedB g t k) n j)) ro rc wm ∧
            HeldB wm wq.heap.size 108 (wlC (lastW t k (lineW (partedB g t k) n j))) ∧ (∀ a, ro = some a → a.block ≠ wq.heap.size)) (fun _ vj _ => n - (intOf vj).toNat)
          case atStart => exact ⟨0, ro, rc, Nat.zero_le _, rfl, by rw [show lineL t k (lineW (partedB g t k) n 0) = [] from rfl, List.append_nil], by rw [show lineL t k (lineW (partedB g t k) n 0) = [] from rfl, List.append_nil]; exact hst.below (below_alloc _ _), HeldB.new _ _ _, fun a ha => by have := (owns_lt hst.1 a ha).2; omega⟩
          case round =>
            clear hst
            obtain ⟨j, ro, rc, hj, rfl, rfl, hst, bL, hap⟩ := hrel
            by_cases hjn : j < n
            · have hjn' : decide ((j : Int) < (n : Int)) = true := by rw [decide_eq_true_eq]; omega
              have bP := hst.plan
              have HW := Lib.hid (HWA2.out k j hk1 (by omega) hjn)
              cases hp : partedB g t k j
              · have HNO := Lib.hid (wall_no (n := n) hp)
                have HW2 := Lib.hid (fun w => by have := HW.out w; rw [hp] at this; exact this)
                clear HW hp
                generalize lineW (partedB g t k) n j = l at *
                generalize wallAtW g n t k j = X at *
                go_wp2_with (first
                  | (refine wpList_load_row rfl 47 _ rfl w.heap.size rfl 47 C (0, 0) _ bP Try.underlying47 rfl HSZ.out ?_)
                  | (refine wpList_store_new rfl 108 _ _ rfl _ (wlC zeroWl) _ rfl rfl rfl (wl_size _) rfl (wlC_one _) ?_)
                  | (go_at_call 100; refine (HW2.out _).mono ?_; rintro e w2 ⟨rfl, hb2⟩))
                have hst2 := (hst.below hb2).below (below_alloc w2 (.cells (wlC X) 108))
                have bL2 := (bL.below hb2).alloc (.cells (wlC X) 108)
                go_roundw
                case rel => exact ⟨j + 1, ro, rc, by omega, by go_num, by rw [HNO.out]; simp, by rw [HNO.out]; exact hst2, by rw [HNO.out]; exact bL2, hap⟩
                case measure => simp [intOf]; omega
              · have HW2 := Lib.hid (fun w => by have := HW.out w; rw [hp] at this; exact this)
                by_cases hd : downTo (partedB g t k) j = j
                · obtain ⟨e1, e2, hne⟩ := wall_new (n := n) hk1 hp hd
                  have HE1 := Lib.hid e1; have HE2 := Lib.hid e2
                  have hlen := lineW_len (partedB g t k) n j
                  clear e1 e2 HW hp hd
                  generalize lineW (partedB g t k) n j = l at *
                  generalize wallAtW g n t k j = X at *
                  obtain ⟨LA, hLA⟩ : ∃ LA, lastW t k l = LA := ⟨_, rfl⟩
                  rw [hLA] at hne bL
                  clear hLA
                  have HRUN := Lib.hid (fun w => by have := run_neq_wl X LA w; rw [hne] at this; exact this)
                  have HLEN : Hid ((BL ++ lineL t k l).length ≤ 106) := Lib.hid (by unfold lineL; rw [List.length_append, List.length_map]; omega)
                  generalize hBQ : BL ++ lineL t k l = BQ at *
                  have hbl := HLEN.out
                  have hown := hst.1
                  have hlt := owns_lt hown
                  have hrs := hst.2.2.2.1
                  have h63 : BQ.length + 1 ≤ maxLen := by unfold maxLen; omega
                  go_wp2_with (first
                    | (refine wpList_load_row rfl 47 _ rfl w.heap.size rfl 47 C (0, 0) _ bP Try.underlying47 rfl HSZ.out ?_)
                    | (refine wpList_store_new rfl 108 _ _ rfl _ (wlC zeroWl) _ rfl rfl rfl (wl_size _) rfl (wlC_one _) ?_)
                    | (refine wpList_load_row_guard rfl 108 _ rfl w2.heap.size rfl 108 (wlC X) (0, 0) _ (HeldB.new w2 _ _) Try.underlying108 rfl (wl_size _) ?_)
                    | (refine wpList_load_row_guard rfl 108 _ rfl wq.heap.size rfl 108 (wlC LA) (0, 0) _ ((bL.below hb2).alloc _) Try.underlying108 rfl (wl_size _) ?_)
                    | (refine wpList_load_row rfl 108 _ rfl w2.heap.size rfl 108 (wlC X) (0, 0) _ (HeldB.new w2 _ _) Try.underlying108 rfl (wl_size _) ?_)
                    | (refine wpList_bin (by rfl) .neq 108 _ _ _ rfl (.bool true) (guard_wl _ _ _ _ _ _) (HRUN.out _) ?_)
                    | (refine wpList_build1 rfl _ 108 _ rfl (wlC X) rfl (build_wl X _) ?_)
                    | (at_builtin; go_loud (refine wpList_pushK _ rfl _ _ 105 rfl (w.heap.size + 2) 108 iw (.agg (wlC zeroWl)) 4 32 Try.underlying105 hwi hwz hw1 hw2 rfl (by decide) ro BQ.length rc _ rfl (ownsRow_below (ownsRow_below (ownsRow_below hown hb2) (below_alloc _ _)) (below_alloc _ _)) (wlC X).toList 1 _ 0 1 rfl (by decide) rfl (cells_new _ _ _) wlC_ones h63 (by omega) (by simp; omega) ?_); intro ao2 cap2 w3 hown3 hg3 hnew3; have bW3 := kept_own ((HeldB.new w2 108 (wlC X)).alloc _) hg3 (fun a ha => by have := (hlt a ha).2; omega); have bL3 := kept_own (((bL.below hb2).alloc _).alloc _) hg3 hap)
                    | (refine wpList_load_row rfl 108 _ rfl w2.heap.size rfl 108 (wlC X) (0, 0) _ bW3 Try.underlying108 rfl (wl_size _) ?_)
                    | (refine wpList_store_row rfl 108 _ _ rfl wq.heap.size (wlC X) rfl rfl 108 (wlC LA) bL3 (wl_size _) rfl (wlC_one _) ?_)
                    | (go_at_call 100; refine (HW2.out _).mono ?_; rintro e w2 ⟨rfl, hb2⟩; have hbs2 := hb2.size))
                  have hst2 := ((hst.below hb2).below (below_alloc w2 (.cells (wlC X) 108))).below (below_alloc _ (.cells (wlC X) 108))
                  have hap3 := grown_lt hnew3 hap (by have := bL.lt; simp; omega)
                  have hne1 : ∀ a, ro = some a → a.block ≠ w.heap.size := fun a ha => by have := (hlt a ha).1; omega
                  have hne2 : ∀ a, ro = some a → a.block ≠ w.heap.size + 1 := fun a ha => by have := (hlt a ha).1; omega
                  have hst3 : WallsSt w C (BQ ++ [X]) ao2 cap2 (w3.setRow wq.heap.size (wlC X)) := by
                    refine ⟨?_, (kept_own hst2.2.1 hg3 hne1).otherRow (by omega) _, (kept_own hst2.2.2.1 hg3 hne2).otherRow (by omega) _, ?_, below_setRowB (below_of_grownBy' hst2.2.2.2.2 hg3 (fun a ha => by have := (hlt a ha).1; omega)) (by omega) _⟩
                    · rw [List.length_append, wlsC_snoc]
                      exact owns_setRow hown3 hap3 _
                    · have := hst2.2.2.2.1; have := hg3.size; simp; omega
                  go_roundw
                  case rel => exact ⟨j + 1, ao2, cap2, by omega, by go_num, by rw [HE1.out, ← List.append_assoc, hBQ, List.length_append]; rfl, by rw [HE1.out, ← List.append_assoc, hBQ]; exact hst3, by rw [HE2.out]; exact bL3.setRow _, hap3⟩
                  case measure => simp [intOf]; omega
                · obtain ⟨e1, hne⟩ := wall_on (n := n) hp hd
                  have HE1 := Lib.hid e1
                  clear e1 HW hp hd
                  generalize lineW (partedB g t k) n j = l at *
                  generalize wallAtW g n t k j = X at *
                  obtain ⟨LA, hLA⟩ : ∃ LA, lastW t k l = LA := ⟨_, rfl⟩
                  rw [hLA] at hne bL
                  have HLA := Lib.hid hLA
                  clear hLA
                  have HRUN := Lib.hid (fun w => by have := run_neq_wl X LA w; rw [hne] at this; exact this)
                  generalize hBQ : BL ++ lineL t k l = BQ at *
                  go_wp2_with (first
                    | (refine wpList_load_row rfl 47 _ rfl w.heap.size rfl 47 C (0, 0) _ bP Try.underlying47 rfl HSZ.out ?_)
                    | (refine wpList_store_new rfl 108 _ _ rfl _ (wlC zeroWl) _ rfl rfl rfl (wl_size _) rfl (wlC_one _) ?_)
                    | (refine wpList_load_row_guard rfl 108 _ rfl w2.heap.size rfl 108 (wlC X) (0, 0) _ (HeldB.new w2 _ _) Try.underlying108 rfl (wl_size _) ?_)
                    | (refine wpList_load_row_guard rfl 108 _ rfl wq.heap.size rfl 108 (wlC LA) (0, 0) _ ((bL.below hb2).alloc _) Try.underlying108 rfl (wl_size _) ?_)
                    | (refine wpList_bin (by rfl) .neq 108 _ _ _ rfl (.bool false) (guard_wl _ _ _ _ _ _) (HRUN.out _) ?_)
                    | (go_at_call 100; refine (HW2.out _).mono ?_; rintro e w2 ⟨rfl, hb2⟩))
                  have hst2 := (hst.below hb2).below (below_alloc w2 (.cells (wlC X) 108))
                  have bL2 := (bL.below hb2).alloc (.cells (wlC X) 108)
                  go_roundw
                  case rel => exact ⟨j + 1, ro, rc, by omega, by go_num, by rw [HE1.out, hBQ], by rw [HE1.out, hBQ]; exact hst2, by rw [HE1.out, HLA.out]; exact bL2, hap⟩
                  case measure => simp [intOf]; omega
            · obtain rfl : j = n := by omega
              have hjn' : decide ((j : Int) < (j : Int)) = false := by rw [decide_eq_false_iff_not]; omega
              have hLN : BL ++ lineL t k (lineW (partedB g t k) j j) = A ++ linesW t (partedB g t) j (k + 1) := by rw [HSTP.out, ← HBL.out, List.append_assoc]
              have HLN := Lib.hid hLN; clear hLN
              generalize BL ++ lineL t k (lineW (partedB g t k) j j) = BQ at *
              go_wp2
              go_roundw
              case rel => exact ⟨k + 1, ro, rc, by omega, .inl (by omega), by go_num, by rw [HLN.out], by rw [← HLN.out]; exact hst⟩
              case measure => simp [intOf]; omega
        · have hkm' : decide ((k : Int) < (m : Int)) = false := by rw [decide_eq_false_iff_not]; omega
          have hLM : A ++ linesW t (partedB g t) n k = waysW h wd g (t + 1) := by
            rw [HWT.out]
            rcases hk2 with h' | rfl
            · obtain rfl : k = m := by omega
              rfl
            · by_cases hm1 : m = 1
              · rw [hm1]
              · obtain rfl : m = 0 := by omega
                rfl
          have HLM := Lib.hid hLM; clear hLM
          generalize A ++ linesW t (partedB g t) n k = BQ at *
          go_wp2
          go_roundw
          case rel => exact ⟨t + 1, ro, rc, by omega, by go_num, by rw [HLM.out], by rw [← HLM.out]; exact hst⟩
          case measure => simp [intOf]; omega
    · obtain rfl : t = 2 := by omega
      have hfin := hst.1
      have hbf := hst.2.2.2.2
      have hs2 := ownsRow_base hfin (base' := w.heap.size) (by omega)
      go_wp2
      go_ret
      exact ⟨ro, rc, rfl, hs2, hbf⟩

end Go.Proofs.Ytpgcpmfemcfoaaa
