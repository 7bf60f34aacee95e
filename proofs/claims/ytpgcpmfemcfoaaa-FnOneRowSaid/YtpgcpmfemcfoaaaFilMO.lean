/-
  All plans of some rows and columns: rooms laid one by one at the first free cell. (Plain mathematics.)
-/
import Derived.Test.YtpgcpmfemcfoaaaRowO

namespace Go.Proofs.Ytpgcpmfemcfoaaa
open Go.RowKit

/-- the first free cell of a row (0: free; else one more than the room) -/
def freeI (wd : Nat) (z : Nat → Nat → Nat) (i : Nat) : Option Nat := (List.range wd).find? fun j => z i j == 0
/-- .. of all rows, the first ones first -/
def fstF (h wd : Nat) (z : Nat → Nat → Nat) : Option (Nat × Nat) := (List.range h).findSome? fun i => (freeI wd z i).map fun j => (i, j)
/-- how many cells are free from one on -/
def runZ (z : Nat → Nat → Nat) (i : Nat) : Nat → Nat → Nat
  | _, 0 => 0
  | j, n + 1 => if z i j = 0 then runZ z i (j + 1) n + 1 else 0
def runF (wd : Nat) (z : Nat → Nat → Nat) (i j : Nat) : Nat := runZ z i j (wd - j)
def putZ (z : Nat → Nat → Nat) (i j hi wi v : Nat) : Nat → Nat → Nat := fun a b => if i ≤ a ∧ a < i + hi ∧ j ≤ b ∧ b < j + wi then v else z a b
/-- what comes of a plan with free cells -/
def fillAt (F : Nat → (Nat → Nat → Nat) → List (Nat × (Nat → Nat → Nat))) (h wd r : Nat) (z : Nat → Nat → Nat) : Option (Nat × Nat) → List (Nat × (Nat → Nat → Nat))
  | none => [(r, z)]
  | some x => (List.range (runF wd z x.1 x.2)).flatMap fun w => (List.range (h - x.1)).flatMap fun t => F (r + 1) (putZ z x.1 x.2 (t + 1) (w + 1) (r + 1))
def fillZ (h wd : Nat) : Nat → Nat → (Nat → Nat → Nat) → List (Nat × (Nat → Nat → Nat))
  | 0, r, z => [(r, z)]
  | k + 1, r, z => fillAt (fillZ h wd k) h wd r z (fstF h wd z)

theorem freeI_some {wd i j : Nat} {z : Nat → Nat → Nat} (h : freeI wd z i = some j) : j < wd ∧ z i j = 0 ∧ ∀ b, b < j → z i b ≠ 0 := by
  unfold freeI at h
  rw [List.find?_range_eq_some] at h
  obtain ⟨h1, h2, h3⟩ := h
  refine ⟨List.mem_range.1 h2, by simpa using h1, fun b hb => ?_⟩
  have := h3 b hb
  simpa using this
theorem freeI_none {wd i : Nat} {z : Nat → Nat → Nat} (h : freeI wd z i = none) : ∀ b, b < wd → z i b ≠ 0 := fun b hb => by
  unfold freeI at h
  rw [List.find?_range_eq_none] at h
  have := h b hb
  simpa using this
theorem fs_first {α : Type} {F : Nat → Option α} : ∀ {m : Nat} {o : α}, (List.range m).findSome? F = some o → ∃ i, i < m ∧ F i = some o ∧ ∀ a, a < i → F a = none
  | 0, o, h => by simp at h
  | m + 1, o, h => by
    rw [List.range_succ, List.findSome?_append] at h
    cases hm : (List.range m).findSome? F with
    | some x =>
      rw [hm] at h
      have e : x = o := by simpa using h
      subst e
      obtain ⟨i, h1, h2, h3⟩ := fs_first hm
      exact ⟨i, by omega, h2, h3⟩
    | none =>
      rw [hm] at h
      have e : F m = some o := by
        cases hf : F m with
        | none => simp [hf] at h
        | some x => simp [hf] at h; rw [h]
      rw [List.findSome?_eq_none_iff] at hm
      exact ⟨m, by omega, e, fun a ha => hm a (List.mem_range.2 ha)⟩
theorem fstF_some {h wd : Nat} {z : Nat → Nat → Nat} {x : Nat × Nat} (hx : fstF h wd z = some x) : x.1 < h ∧ x.2 < wd ∧ z x.1 x.2 = 0 ∧ (∀ b, b < x.2 → z x.1 b ≠ 0) ∧ ∀ a, a < x.1 → ∀ b, b < wd → z a b ≠ 0 := by
  unfold fstF at hx
  obtain ⟨i, h1, h2, h3⟩ := fs_first hx
  rw [Option.map_eq_some_iff] at h2
  obtain ⟨j, h4, rfl⟩ := h2
  obtain ⟨a1, a2, a3⟩ := freeI_some h4
  refine ⟨h1, a1, a2, a3, fun a ha => freeI_none ?_⟩
  have := h3 a ha
  rwa [Option.map_eq_none_iff] at this
theorem fstF_none {h wd : Nat} {z : Nat → Nat → Nat} (hx : fstF h wd z = none) : ∀ i, i < h → ∀ j, j < wd → z i j ≠ 0 := fun i hi => by
  unfold fstF at hx
  rw [List.findSome?_eq_none_iff] at hx
  have := hx i (List.mem_range.2 hi)
  rw [Option.map_eq_none_iff] at this
  exact freeI_none this
theorem runZ_le (z : Nat → Nat → Nat) (i : Nat) : ∀ (n j : Nat), runZ z i j n ≤ n
  | 0, _ => Nat.le_refl _
  | n + 1, j => by
    unfold runZ
    split
    · have := runZ_le z i n (j + 1); omega
    · omega
theorem runZ_free (z : Nat → Nat → Nat) (i : Nat) : ∀ (n j a : Nat), a < runZ z i j n → z i (j + a) = 0
  | 0, _, a, h => absurd h (Nat.not_lt_zero _)
  | n + 1, j, a, h => by
    unfold runZ at h
    split at h
    · rename_i h0
      cases a with
      | zero => exact h0
      | succ a => have := runZ_free z i n (j + 1) a (by omega); rw [show j + 1 + a = j + (a + 1) by omega] at this; exact this
    · exact absurd h (Nat.not_lt_zero _)
theorem runZ_end (z : Nat → Nat → Nat) (i : Nat) : ∀ (n j : Nat), runZ z i j n < n → z i (j + runZ z i j n) ≠ 0
  | 0, _, h => absurd h (Nat.not_lt_zero _)
  | n + 1, j, h => by
    unfold runZ at h ⊢
    split
    · rename_i h0
      rw [if_pos h0] at h
      have := runZ_end z i n (j + 1) (by omega)
      rw [show j + (runZ z i (j + 1) n + 1) = j + 1 + runZ z i (j + 1) n by omega]; exact this
    · rename_i h0; exact h0
theorem runF_le {wd i j : Nat} {z : Nat → Nat → Nat} (hj : j < wd) : j + runF wd z i j ≤ wd := by
  have := runZ_le z i (wd - j) j
  unfold runF; omega

/-- the number of free cells -/
def freeR (z : Nat → Nat → Nat) (i : Nat) : Nat → Nat
  | 0 => 0
  | n + 1 => freeR z i n + if z i n = 0 then 1 else 0
def freeC (wd : Nat) (z : Nat → Nat → Nat) : Nat → Nat
  | 0 => 0
  | n + 1 => freeC wd z n + freeR z n wd
theorem freeR_le {z z' : Nat → Nat → Nat} {i : Nat} (hz : ∀ j, z' i j = 0 → z i j = 0) : ∀ n, freeR z' i n ≤ freeR z i n
  | 0 => Nat.le_refl _
  | n + 1 => by
    have ih := freeR_le hz n
    show freeR z' i n + _ ≤ freeR z i n + _
    by_cases h : z' i n = 0
    · rw [if_pos h, if_pos (hz n h)]; omega
    · rw [if_neg h]; omega
theorem freeR_lt {z z' : Nat → Nat → Nat} {i j : Nat} (hz : ∀ j, z' i j = 0 → z i j = 0) (h0 : z i j = 0) (h1 : z' i j ≠ 0) : ∀ n, j < n → freeR z' i n < freeR z i n
  | 0, h => absurd h (Nat.not_lt_zero _)
  | n + 1, h => by
    show freeR z' i n + _ < freeR z i n + _
    by_cases e : j = n
    · subst e
      rw [if_pos h0, if_neg h1]
      have := freeR_le hz j; omega
    · have ih := freeR_lt hz h0 h1 n (by omega)
      by_cases h2 : z' i n = 0
      · rw [if_pos h2, if_pos (hz n h2)]; omega
      · rw [if_neg h2]; omega
theorem freeC_le {wd : Nat} {z z' : Nat → Nat → Nat} (hz : ∀ i j, z' i j = 0 → z i j = 0) : ∀ n, freeC wd z' n ≤ freeC wd z n
  | 0 => Nat.le_refl _
  | n + 1 => by
    have := freeC_le (wd := wd) hz n
    have := freeR_le (hz n) wd
    show freeC wd z' n + _ ≤ freeC wd z n + _; omega
theorem freeC_lt {wd i j : Nat} {z z' : Nat → Nat → Nat} (hz : ∀ i j, z' i j = 0 → z i j = 0) (h0 : z i j = 0) (h1 : z' i j ≠ 0) (hj : j < wd) : ∀ n, i < n → freeC wd z' n < freeC wd z n
  | 0, h => absurd h (Nat.not_lt_zero _)
  | n + 1, h => by
    show freeC wd z' n + _ < freeC wd z n + _
    by_cases e : i = n
    · subst e
      have := freeC_le (wd := wd) hz i
      have := freeR_lt (hz i) h0 h1 wd hj; omega
    · have := freeC_lt hz h0 h1 hj n (by omega)
      have := freeR_le (hz n) wd; omega
theorem freeR_pos {z : Nat → Nat → Nat} {i j : Nat} (h0 : z i j = 0) : ∀ n, j < n → 0 < freeR z i n
  | 0, h => absurd h (Nat.not_lt_zero _)
  | n + 1, h => by
    show 0 < freeR z i n + _
    by_cases e : j = n
    · subst e; rw [if_pos h0]; omega
    · have := freeR_pos h0 n (by omega); omega
theorem freeC_pos {wd i j : Nat} {z : Nat → Nat → Nat} (h0 : z i j = 0) (hj : j < wd) : ∀ n, i < n → 0 < freeC wd z n
  | 0, h => absurd h (Nat.not_lt_zero _)
  | n + 1, h => by
    show 0 < freeC wd z n + _
    by_cases e : i = n
    · subst e; have := freeR_pos h0 wd hj; omega
    · have := freeC_pos h0 hj n (by omega); omega
theorem freeR_all (z : Nat → Nat → Nat) (i : Nat) : ∀ n, freeR z i n ≤ n
  | 0 => Nat.le_refl _
  | n + 1 => by
    have := freeR_all z i n
    show freeR z i n + _ ≤ _
    split <;> omega
theorem freeC_all (wd : Nat) (z : Nat → Nat → Nat) : ∀ n, freeC wd z n ≤ n * wd
  | 0 => by rw [Nat.zero_mul]; exact Nat.le_refl _
  | n + 1 => by
    have := freeC_all wd z n
    have := freeR_all z n wd
    show freeC wd z n + _ ≤ _
    rw [Nat.succ_mul]; omega

/-- what holds while rooms are laid: what is below a free cell is free; each room has a cell; beyond the rows and columns all is room 0's number -/
structure FilI (h wd r : Nat) (z : Nat → Nat → Nat) : Prop where
  down : ∀ i j i', i ≤ i' → i' < h → j < wd → z i j = 0 → z i' j = 0
  num : r + freeC wd z h ≤ h * wd
  le : ∀ i j, i < h → j < wd → z i j ≤ r
  out : ∀ i j, h ≤ i ∨ wd ≤ j → z i j = 1
theorem putZ_in {z : Nat → Nat → Nat} {i j hi wi v a b : Nat} (h : i ≤ a ∧ a < i + hi ∧ j ≤ b ∧ b < j + wi) : putZ z i j hi wi v a b = v := if_pos h
theorem putZ_no {z : Nat → Nat → Nat} {i j hi wi v a b : Nat} (h : ¬ (i ≤ a ∧ a < i + hi ∧ j ≤ b ∧ b < j + wi)) : putZ z i j hi wi v a b = z a b := if_neg h
theorem putZ_zero {z : Nat → Nat → Nat} {i j hi wi v a b : Nat} (hv : v ≠ 0) (h : putZ z i j hi wi v a b = 0) : z a b = 0 := by
  by_cases hb : i ≤ a ∧ a < i + hi ∧ j ≤ b ∧ b < j + wi
  · rw [putZ_in hb] at h; exact absurd h hv
  · rw [putZ_no hb] at h; exact h
theorem FilI.step {h wd r w t : Nat} {z : Nat → Nat → Nat} {x : Nat × Nat} (I : FilI h wd r z) (hx : fstF h wd z = some x) (hw : w < runF wd z x.1 x.2) (ht : t < h - x.1) :
    FilI h wd (r + 1) (putZ z x.1 x.2 (t + 1) (w + 1) (r + 1)) ∧ freeC wd (putZ z x.1 x.2 (t + 1) (w + 1) (r + 1)) h < freeC wd z h := by
  obtain ⟨x1, x2, x3, x4, x5⟩ := fstF_some hx
  have hr := runF_le (z := z) (i := x.1) x2
  have hlt : freeC wd (putZ z x.1 x.2 (t + 1) (w + 1) (r + 1)) h < freeC wd z h :=
    freeC_lt (z := z) (z' := putZ z x.1 x.2 (t + 1) (w + 1) (r + 1)) (i := x.1) (j := x.2) (fun i j h0 => putZ_zero (Nat.succ_ne_zero r) h0) x3 (by rw [putZ_in (⟨Nat.le_refl _, by omega, Nat.le_refl _, by omega⟩ : x.1 ≤ x.1 ∧ x.1 < x.1 + (t + 1) ∧ x.2 ≤ x.2 ∧ x.2 < x.2 + (w + 1))]; omega) x2 h x1
  refine ⟨⟨fun i j i' h1 h2 h3 h0 => ?_, by have := I.num; omega, fun i j hi hj => ?_, fun i j ho => ?_⟩, hlt⟩
  · have hz := putZ_zero (by omega) h0
    have hz' := I.down i j i' h1 h2 h3 hz
    have hi : x.1 ≤ i := Nat.le_of_not_lt fun hlt => x5 i hlt j h3 hz
    rw [putZ_no, hz']
    rintro ⟨a1, a2, a3, a4⟩
    rw [putZ_in ⟨hi, by omega, a3, a4⟩] at h0
    omega
  · by_cases hb : x.1 ≤ i ∧ i < x.1 + (t + 1) ∧ x.2 ≤ j ∧ j < x.2 + (w + 1)
    · rw [putZ_in hb]; exact Nat.le_refl _
    · rw [putZ_no hb]; have := I.le i j hi hj; omega
  · rw [putZ_no (by omega)]; exact I.out i j ho
/-- all cells free -/
def zFree (h wd : Nat) : Nat → Nat → Nat := fun i j => if i < h ∧ j < wd then 0 else 1
theorem FilI.start (h wd : Nat) : FilI h wd 0 (zFree h wd) where
  down := fun i j i' h1 h2 h3 _ => by unfold zFree; rw [if_pos ⟨h2, h3⟩]
  num := by rw [Nat.zero_add]; exact freeC_all _ _ _
  le := fun i j hi hj => by unfold zFree; rw [if_pos ⟨hi, hj⟩]; exact Nat.le_refl _
  out := fun i j ho => by unfold zFree; rw [if_neg (by omega)]
/-- there are never too many rooms while a cell is free -/
theorem FilI.room {h wd r : Nat} {z : Nat → Nat → Nat} {x : Nat × Nat} (I : FilI h wd r z) (hx : fstF h wd z = some x) : r < h * wd := by
  obtain ⟨x1, x2, x3, _⟩ := fstF_some hx
  have := freeC_pos x3 x2 h x1
  have := I.num
  omega
/-- all plans -/
def allZ (h wd : Nat) : List (Nat × (Nat → Nat → Nat)) := fillZ h wd (h * wd) 0 (zFree h wd)
/-- what comes is full -/
theorem fillZ_full {h wd : Nat} : ∀ (k r : Nat) (z : Nat → Nat → Nat), FilI h wd r z → freeC wd z h ≤ k → ∀ y ∈ fillZ h wd k r z, FilI h wd y.1 y.2 ∧ fstF h wd y.2 = none
  | 0, r, z, I, hf, y, hy => by
    have e : y = (r, z) := by simpa [fillZ] using hy
    subst e
    refine ⟨I, ?_⟩
    cases hx : fstF h wd z with
    | none => rfl
    | some x =>
      obtain ⟨x1, x2, x3, _⟩ := fstF_some hx
      have := freeC_pos x3 x2 h x1; omega
  | k + 1, r, z, I, hf, y, hy => by
    have hy' : y ∈ fillAt (fillZ h wd k) h wd r z (fstF h wd z) := hy
    cases hx : fstF h wd z with
    | none =>
      rw [hx] at hy'
      have e : y = (r, z) := by simpa [fillAt] using hy'
      subst e; exact ⟨I, hx⟩
    | some x =>
      rw [hx] at hy'
      unfold fillAt at hy'
      obtain ⟨w, hw, h1⟩ := List.mem_flatMap.1 hy'
      obtain ⟨t, ht, h2⟩ := List.mem_flatMap.1 h1
      obtain ⟨I', hlt⟩ := I.step hx (List.mem_range.1 hw) (List.mem_range.1 ht)
      exact fillZ_full k (r + 1) _ I' (by omega) y h2
end Go.Proofs.Ytpgcpmfemcfoaaa
