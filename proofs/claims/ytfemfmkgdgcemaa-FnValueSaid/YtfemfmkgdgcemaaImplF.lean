
/-
  The program draws a plan out of marks. (Walk.)
-/
import Derived.Test.YtfemfmkgdgcemaaImplDE
import Derived.Test.YtfemfmkgdgcemaaSpecA
namespace Go.Proofs.Ytfemfmkgdgcemaa
open Go.RowKit

/-- the marks of a grid, row by row -/
def markL (wd : Nat) (m : Nat → Nat → Nat) (t : Nat) : List Nat := (List.range t).map fun k => m (k / wd) (k % wd)
def markF (h wd : Nat) (m : Nat → Nat → Nat) : List Nat := firsts (markL wd m (h * wd))
/-- the room of each cell, once t cells are over -/
def roomG (h wd : Nat) (m : Nat → Nat → Nat) (t : Nat) (i j : Nat) : Nat := if i < h ∧ j < wd ∧ i * wd + j < t then (markF h wd m).idxOf (m i j) else 0
def renG (h wd : Nat) (m : Nat → Nat → Nat) : Nat → Nat → Nat := roomG h wd m (h * wd)

def drawOk (h wd : Int) (m : Nat → Nat → Nat) : Bool :=
  l6B h 1 6 && l6B wd 1 6 && decide ((markF h.toNat wd.toNat m).length ≤ 9) && filledB h.toNat wd.toNat (renG h.toNat wd.toNat m)
def drawC (h wd : Int) (m : Nat → Nat → Nat) : Array Value :=
  if drawOk h wd m then planC h.toNat wd.toNat (markF h.toNat wd.toNat m).length (renG h.toNat wd.toNat m) else zeroC

/-- one more than the number of a mark; 0 is none yet -/
def nameN (o : List Nat) (v : Nat) : Nat := if v ∈ o then o.idxOf v + 1 else 0
def namesC (o : List Nat) : Array Value := ((List.range 26).map fun v => Value.int .i64 ((nameN o v : Nat) : Int)).toArray
theorem namesC_at (o : List Nat) (v : Nat) (h : v < 26) : (namesC o)[v]? = some (.int .i64 ((nameN o v : Nat) : Int)) := by
  simp [namesC, h]
theorem nameN_no {o : List Nat} {v : Nat} (h : v ∉ o) : nameN o v = 0 := if_neg h
theorem nameN_yes {o : List Nat} {v : Nat} (h : v ∈ o) : nameN o v = o.idxOf v + 1 := if_pos h
theorem nameN_new {o : List Nat} {v : Nat} (h : v ∉ o) : nameN (o ++ [v]) v = o.length + 1 := by
  rw [nameN_yes (by simp), List.idxOf_append, if_neg h]; simp
theorem nameN_old {o : List Nat} {v u : Nat} (h : u ≠ v) : nameN (o ++ [v]) u = nameN o u := by
  unfold nameN
  by_cases hu : u ∈ o
  · rw [if_pos hu, if_pos (by simp [hu]), List.idxOf_append, if_pos hu]
  · rw [if_neg hu, if_neg (by simp [hu, h])]

theorem namesC_set {o : List Nat} {v : Nat} (h : v ∉ o) (hv : v < 26) : (namesC o).setIfInBounds v (.int .i64 ((o.length + 1 : Nat) : Int)) = namesC (o ++ [v]) := by
  apply Array.ext_getElem?
  intro i
  rw [Array.getElem?_setIfInBounds]
  by_cases hi : i < 26
  · by_cases he : v = i
    · subst he
      rw [if_pos rfl, if_pos (by simpa [namesC] using hv), namesC_at _ _ hv, nameN_new h]
    · rw [if_neg he, namesC_at _ _ hi, namesC_at _ _ hi, nameN_old (Ne.symm he)]
  · have h1 : (namesC o)[i]? = none := by simp [namesC]; omega
    have h2 : (namesC (o ++ [v]))[i]? = none := by simp [namesC]; omega
    rw [h1, h2]
    split
    · split
      · omega
      · rfl
    · rfl

theorem zero_namesC : namesC [] = #[.int .i64 0, .int .i64 0, .int .i64 0, .int .i64 0, .int .i64 0, .int .i64 0, .int .i64 0, .int .i64 0, .int .i64 0, .int .i64 0, .int .i64 0, .int .i64 0, .int .i64 0, .int .i64 0, .int .i64 0, .int .i64 0, .int .i64 0, .int .i64 0, .int .i64 0, .int .i64 0, .int .i64 0, .int .i64 0, .int .i64 0, .int .i64 0, .int .i64 0, .int .i64 0] := by kernel_rfl
theorem planC_set2 (h w r r' : Nat) (g : Nat → Nat → Nat) : (planC h w r g).setIfInBounds 2 (.int .i64 (r' : Int)) = planC h w r' g := by
  simp [planC]

theorem planC_setg (h w r : Nat) (g : Nat → Nat → Nat) (i j x : Nat) (hi : i < 6) (hj : j < 6) : (planC h w r g).setIfInBounds (3 + i * 6 + j) (.int .i64 (x : Int)) = planC h w r (fun i' j' => if i' = i ∧ j' = j then x else g i' j') := by
  apply Array.ext_getElem?
  intro k
  rw [Array.getElem?_setIfInBounds]
  have hsz := planC_size h w r g
  by_cases hk : k < 39
  · by_cases h3 : k < 3
    · rw [if_neg (by omega)]
      have : k = 0 ∨ k = 1 ∨ k = 2 := by omega
      rcases this with rfl | rfl | rfl
      · rw [planC_0, planC_0]
      · rw [planC_1, planC_1]
      · rw [planC_2, planC_2]
    · obtain ⟨a, b, ha, hb, rfl⟩ : ∃ a b, a < 6 ∧ b < 6 ∧ k = 3 + a * 6 + b := ⟨(k - 3) / 6, (k - 3) % 6, by omega, by omega, by omega⟩
      rw [planC_at h w r _ a b ha hb, planC_at h w r _ a b ha hb]
      by_cases he : a = i ∧ b = j
      · obtain ⟨rfl, rfl⟩ := he
        rw [if_pos rfl, if_pos (by omega)]
        simp
      · rw [if_neg (by omega), if_neg he]
  · have h1 : (planC h w r g)[k]? = none := by rw [Array.getElem?_eq_none]; omega
    have h2 : (planC h w r (fun i' j' => if i' = i ∧ j' = j then x else g i' j'))[k]? = none := by rw [Array.getElem?_eq_none]; rw [planC_size]; omega
    rw [h1, h2]
    split
    · rw [if_neg (by omega)]
    · rfl

theorem planC_congr (h w r : Nat) {g g' : Nat → Nat → Nat} (he : ∀ i j, i < 6 → j < 6 → g i j = g' i j) : planC h w r g = planC h w r g' := by
  unfold planC
  congr 4
  apply List.map_congr_left
  intro k hk
  rw [List.mem_range] at hk
  rw [he (k / 6) (k % 6) (by omega) (by omega)]

theorem markL_succ (wd : Nat) (m : Nat → Nat → Nat) (i j : Nat) (hj : j < wd) : markL wd m (i * wd + j + 1) = markL wd m (i * wd + j) ++ [m i j] := by
  obtain ⟨h1, h2⟩ := cell_div i j wd hj
  unfold markL
  rw [List.range_succ, List.map_append, List.map_singleton, h1, h2]

theorem markL_prefix (wd : Nat) (m : Nat → Nat → Nat) (t u : Nat) : ∃ R, markL wd m (t + u) = markL wd m t ++ R := by
  induction u with
  | zero => exact ⟨[], by simp⟩
  | succ u ih =>
    obtain ⟨R, hR⟩ := ih
    refine ⟨R ++ [m ((t + u) / wd) ((t + u) % wd)], ?_⟩
    rw [← Nat.add_assoc]
    unfold markL at *
    rw [List.range_succ, List.map_append, hR, List.append_assoc]
    rfl

/-- the number of a mark among all is told by the marks ahead of it -/
theorem markF_idx (h wd : Nat) (m : Nat → Nat → Nat) (i j : Nat) (hi : i < h) (hj : j < wd) : (markF h wd m).idxOf (m i j) = (firsts (markL wd m (i * wd + j))).idxOf (m i j) := by
  have hle : i * wd + j + 1 ≤ h * wd := by
    have : i * wd + wd ≤ h * wd := by rw [← Nat.succ_mul]; exact Nat.mul_le_mul_right _ hi
    omega
  obtain ⟨R, hR⟩ := markL_prefix wd m (i * wd + j + 1) (h * wd - (i * wd + j + 1))
  unfold markF
  rw [show h * wd = i * wd + j + 1 + (h * wd - (i * wd + j + 1)) from by omega, hR, markL_succ wd m i j hj, List.append_assoc, List.singleton_append, name_at]

theorem roomG_succ (h wd : Nat) (m : Nat → Nat → Nat) (i j : Nat) (hi : i < h) (hj : j < wd) :
    (fun i' j' => if i' = i ∧ j' = j then (firsts (markL wd m (i * wd + j))).idxOf (m i j) else roomG h wd m (i * wd + j) i' j') = roomG h wd m (i * wd + j + 1) := by
  funext i' j'
  by_cases he : i' = i ∧ j' = j
  · obtain ⟨rfl, rfl⟩ := he
    rw [if_pos ⟨rfl, rfl⟩]
    unfold roomG
    rw [if_pos ⟨hi, hj, by omega⟩, markF_idx h wd m i' j' hi hj]
  · rw [if_neg he]
    unfold roomG
    by_cases hx : i' < h ∧ j' < wd ∧ i' * wd + j' < i * wd + j
    · rw [if_pos hx, if_pos ⟨hx.1, hx.2.1, by omega⟩]
    · rw [if_neg hx, if_neg]
      rintro ⟨a, b, c⟩
      apply hx
      refine ⟨a, b, ?_⟩
      rcases Nat.lt_or_ge (i' * wd + j') (i * wd + j) with h' | h'
      · exact h'
      · exfalso
        have heq : i' * wd + j' = i * wd + j := by omega
        apply he
        have e1 := cell_div i' j' wd b
        have e2 := cell_div i j wd hj
        rw [heq] at e1
        exact ⟨e1.1.symm.trans e2.1, e1.2.symm.trans e2.2⟩

end Go.Proofs.Ytfemfmkgdgcemaa
