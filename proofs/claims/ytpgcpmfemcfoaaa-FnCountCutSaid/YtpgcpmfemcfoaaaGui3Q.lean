/-
  Merged texts: Gui1 Gui3.
-/
import Derived.Test.YtpgcpmfemcfoaaaWallsQ
import Derived.Test.YtpgcpmfemcfoaaaMathFQ
import Derived.Test.YtpgcpmfemcfoaaaLongQ
import Derived.Lib.AppendZeros
import Derived.BigRegion
import Derived.Lib.QuietBelow
import Derived.OrdersHeld
import Derived.BigQuiet
import Derived.Deep.MidRow
import Derived.Maps.AppendAt
import Derived.Lib.SliceRun
import Derived.WalkMore
import Derived.Lib.BufferMore
import Derived.WalkSpells

/-
  Merged texts: GuiM GuiN.
-/
/-
  Plans that are cut: rectangles of cells, their cuts, and what is told along them. Plain mathematics; no function of the program is named.
-/
namespace Go.Proofs.Ytpgcpmfemcfoaaa
open Go.RowKit

/-- a rectangle of cells: its first row, its rows, its first column, its columns -/
structure Rc where
  r0 : Nat
  h : Nat
  c0 : Nat
  w : Nat

def Rc.has (R : Rc) (i j : Nat) : Prop := R.r0 ≤ i ∧ i < R.r0 + R.h ∧ R.c0 ≤ j ∧ j < R.c0 + R.w
/-- are all cells of one room -/
def Rc.one (g : Nat → Nat → Nat) (R : Rc) : Bool := (List.range R.h).all fun i => (List.range R.w).all fun j => decide (g (R.r0 + i) (R.c0 + j) = g R.r0 R.c0)
theorem Rc.one_iff {g : Nat → Nat → Nat} {R : Rc} : R.one g = true ↔ ∀ i j, R.has i j → g i j = g R.r0 R.c0 := by
  unfold Rc.one
  rw [List.all_eq_true]
  constructor
  · intro h i j hij
    obtain ⟨h1, h2, h3, h4⟩ := hij
    have a := h (i - R.r0) (List.mem_range.2 (by omega))
    rw [List.all_eq_true] at a
    have b := a (j - R.c0) (List.mem_range.2 (by omega))
    rw [decide_eq_true_eq, show R.r0 + (i - R.r0) = i by omega, show R.c0 + (j - R.c0) = j by omega] at b
    exact b
  · intro h i hi
    rw [List.mem_range] at hi
    rw [List.all_eq_true]
    intro j hj
    rw [List.mem_range] at hj
    rw [decide_eq_true_eq]
    exact h _ _ ⟨by omega, by omega, by omega, by omega⟩
/-- a cut: 0 or 1, and the column to the right of it, or the row below it -/
def Rc.ins (R : Rc) (c : Nat × Nat) : Bool := if c.1 = 0 then decide (R.c0 < c.2) && decide (c.2 < R.c0 + R.w) else decide (R.r0 < c.2) && decide (c.2 < R.r0 + R.h)
def Rc.free (g : Nat → Nat → Nat) (R : Rc) (c : Nat × Nat) : Bool :=
  if c.1 = 0 then (List.range R.h).all fun i => decide (g (R.r0 + i) (c.2 - 1) ≠ g (R.r0 + i) c.2) else (List.range R.w).all fun j => decide (g (c.2 - 1) (R.c0 + j) ≠ g c.2 (R.c0 + j))
def Rc.isCut (g : Nat → Nat → Nat) (R : Rc) (c : Nat × Nat) : Bool := R.ins c && R.free g c
theorem Rc.ins_up {R : Rc} {c : Nat × Nat} (h : c.1 = 0) : R.ins c = true ↔ R.c0 < c.2 ∧ c.2 < R.c0 + R.w := by
  unfold Rc.ins; rw [if_pos h, Bool.and_eq_true, decide_eq_true_eq, decide_eq_true_eq]
theorem Rc.ins_lv {R : Rc} {c : Nat × Nat} (h : ¬ c.1 = 0) : R.ins c = true ↔ R.r0 < c.2 ∧ c.2 < R.r0 + R.h := by
  unfold Rc.ins; rw [if_neg h, Bool.and_eq_true, decide_eq_true_eq, decide_eq_true_eq]
theorem Rc.free_up {g : Nat → Nat → Nat} {R : Rc} {c : Nat × Nat} (h : c.1 = 0) : R.free g c = true ↔ ∀ i, R.r0 ≤ i → i < R.r0 + R.h → g i (c.2 - 1) ≠ g i c.2 := by
  unfold Rc.free; rw [if_pos h, List.all_eq_true]
  constructor
  · intro a i h1 h2
    have b := a (i - R.r0) (List.mem_range.2 (by omega))
    rwa [decide_eq_true_eq, show R.r0 + (i - R.r0) = i by omega] at b
  · intro a i hi
    rw [List.mem_range] at hi
    rw [decide_eq_true_eq]
    exact a _ (by omega) (by omega)
theorem Rc.free_lv {g : Nat → Nat → Nat} {R : Rc} {c : Nat × Nat} (h : ¬ c.1 = 0) : R.free g c = true ↔ ∀ j, R.c0 ≤ j → j < R.c0 + R.w → g (c.2 - 1) j ≠ g c.2 j := by
  unfold Rc.free; rw [if_neg h, List.all_eq_true]
  constructor
  · intro a i h1 h2
    have b := a (i - R.c0) (List.mem_range.2 (by omega))
    rwa [decide_eq_true_eq, show R.c0 + (i - R.c0) = i by omega] at b
  · intro a i hi
    rw [List.mem_range] at hi
    rw [decide_eq_true_eq]
    exact a _ (by omega) (by omega)
def linesC : List (Nat × Nat) := [(0, 1), (0, 2), (0, 3), (0, 4), (0, 5), (1, 1), (1, 2), (1, 3), (1, 4), (1, 5)]
theorem mem_linesC {c : Nat × Nat} : c ∈ linesC ↔ c.1 < 2 ∧ 1 ≤ c.2 ∧ c.2 < 6 := by
  obtain ⟨a, b⟩ := c
  simp only [linesC, List.mem_cons, List.not_mem_nil, or_false, Prod.mk.injEq]
  omega
/-- the cuts of a rectangle, in the order of walls -/
def Rc.cuts (g : Nat → Nat → Nat) (R : Rc) : List (Nat × Nat) := linesC.filter (R.isCut g)
def Rc.left (R : Rc) (c : Nat × Nat) : Rc := if c.1 = 0 then ⟨R.r0, R.h, R.c0, c.2 - R.c0⟩ else ⟨R.r0, c.2 - R.r0, R.c0, R.w⟩
def Rc.right (R : Rc) (c : Nat × Nat) : Rc := if c.1 = 0 then ⟨R.r0, R.h, c.2, R.c0 + R.w - c.2⟩ else ⟨c.2, R.r0 + R.h - c.2, R.c0, R.w⟩
theorem Rc.left_up {R : Rc} {c : Nat × Nat} (h : c.1 = 0) : R.left c = ⟨R.r0, R.h, R.c0, c.2 - R.c0⟩ := if_pos h
theorem Rc.left_lv {R : Rc} {c : Nat × Nat} (h : ¬ c.1 = 0) : R.left c = ⟨R.r0, c.2 - R.r0, R.c0, R.w⟩ := if_neg h
theorem Rc.right_up {R : Rc} {c : Nat × Nat} (h : c.1 = 0) : R.right c = ⟨R.r0, R.h, c.2, R.c0 + R.w - c.2⟩ := if_pos h
theorem Rc.right_lv {R : Rc} {c : Nat × Nat} (h : ¬ c.1 = 0) : R.right c = ⟨c.2, R.r0 + R.h - c.2, R.c0, R.w⟩ := if_neg h
/-- a rectangle that is not empty, inside a grid -/
structure Rc.Fit (R : Rc) (h wd : Nat) : Prop where
  h1 : 1 ≤ R.h
  w1 : 1 ≤ R.w
  hh : R.r0 + R.h ≤ h
  hw : R.c0 + R.w ≤ wd
theorem Rc.fit_left {R : Rc} {h wd : Nat} {c : Nat × Nat} (F : R.Fit h wd) (hc : R.ins c = true) : (R.left c).Fit h wd ∧ (R.left c).h + (R.left c).w < R.h + R.w := by
  obtain ⟨a1, a2, a3, a4⟩ := F
  by_cases h0 : c.1 = 0
  · rw [Rc.ins_up h0] at hc; rw [Rc.left_up h0]; exact ⟨⟨a1, by show 1 ≤ c.2 - R.c0; omega, a3, by show R.c0 + (c.2 - R.c0) ≤ wd; omega⟩, by show R.h + (c.2 - R.c0) < _; omega⟩
  · rw [Rc.ins_lv h0] at hc; rw [Rc.left_lv h0]; exact ⟨⟨by show 1 ≤ c.2 - R.r0; omega, a2, by show R.r0 + (c.2 - R.r0) ≤ h; omega, a4⟩, by show c.2 - R.r0 + R.w < _; omega⟩
theorem Rc.fit_right {R : Rc} {h wd : Nat} {c : Nat × Nat} (F : R.Fit h wd) (hc : R.ins c = true) : (R.right c).Fit h wd ∧ (R.right c).h + (R.right c).w < R.h + R.w := by
  obtain ⟨a1, a2, a3, a4⟩ := F
  by_cases h0 : c.1 = 0
  · rw [Rc.ins_up h0] at hc; rw [Rc.right_up h0]; exact ⟨⟨a1, by show 1 ≤ R.c0 + R.w - c.2; omega, a3, by show c.2 + (R.c0 + R.w - c.2) ≤ wd; omega⟩, by show R.h + (R.c0 + R.w - c.2) < _; omega⟩
  · rw [Rc.ins_lv h0] at hc; rw [Rc.right_lv h0]; exact ⟨⟨by show 1 ≤ R.r0 + R.h - c.2; omega, a2, by show c.2 + (R.r0 + R.h - c.2) ≤ h; omega, a4⟩, by show R.r0 + R.h - c.2 + R.w < _; omega⟩
theorem Rc.left_has {R : Rc} {c : Nat × Nat} (hc : R.ins c = true) {i j : Nat} : (R.left c).has i j ↔ R.has i j ∧ (if c.1 = 0 then j else i) < c.2 := by
  by_cases h0 : c.1 = 0
  · rw [Rc.ins_up h0] at hc; rw [Rc.left_up h0, if_pos h0]; unfold Rc.has; simp only; omega
  · rw [Rc.ins_lv h0] at hc; rw [Rc.left_lv h0, if_neg h0]; unfold Rc.has; simp only; omega
theorem Rc.right_has {R : Rc} {c : Nat × Nat} (hc : R.ins c = true) {i j : Nat} : (R.right c).has i j ↔ R.has i j ∧ c.2 ≤ (if c.1 = 0 then j else i) := by
  by_cases h0 : c.1 = 0
  · rw [Rc.ins_up h0] at hc; rw [Rc.right_up h0, if_pos h0]; unfold Rc.has; simp only; omega
  · rw [Rc.ins_lv h0] at hc; rw [Rc.right_lv h0, if_neg h0]; unfold Rc.has; simp only; omega
theorem Rc.cuts_mem {g : Nat → Nat → Nat} {R : Rc} {c : Nat × Nat} (h : c ∈ R.cuts g) : c.1 < 2 ∧ R.ins c = true ∧ R.free g c = true := by
  unfold Rc.cuts at h
  rw [List.mem_filter, mem_linesC] at h
  have := h.2
  unfold Rc.isCut at this
  rw [Bool.and_eq_true] at this
  exact ⟨h.1.1, this⟩
theorem Rc.mem_cuts {g : Nat → Nat → Nat} {R : Rc} {c : Nat × Nat} {h wd : Nat} (F : R.Fit h wd) (hh : h ≤ 6) (hw : wd ≤ 6) (h1 : c.1 < 2) (h2 : R.ins c = true) (h3 : R.free g c = true) : c ∈ R.cuts g := by
  unfold Rc.cuts
  rw [List.mem_filter, mem_linesC]
  refine ⟨?_, by unfold Rc.isCut; rw [h2, h3]; rfl⟩
  have := F.hh; have := F.hw
  by_cases h0 : c.1 = 0
  · rw [Rc.ins_up h0] at h2; omega
  · rw [Rc.ins_lv h0] at h2; omega

/-! # along first cuts -/
inductive Tr where
  | room (a : Nat)
  | cut (way line : Nat) (l r : Tr)
def Rc.tree (g : Nat → Nat → Nat) : Nat → Rc → Option Tr
  | 0, _ => none
  | n + 1, R => if R.one g = true then some (Tr.room (g R.r0 R.c0)) else
    match (R.cuts g).head? with
    | none => none
    | some c => match Rc.tree g n (R.left c), Rc.tree g n (R.right c) with
      | some a, some b => some (Tr.cut c.1 c.2 a b)
      | _, _ => none
def Rc.stuck (g : Nat → Nat → Nat) : Nat → Rc → Option Rc
  | 0, _ => none
  | n + 1, R => if R.one g = true then none else
    match (R.cuts g).head? with
    | none => some R
    | some c => match Rc.stuck g n (R.left c) with
      | some S => some S
      | none => Rc.stuck g n (R.right c)
theorem Rc.tree_one {g : Nat → Nat → Nat} {n : Nat} {R : Rc} (h : R.one g = true) : R.tree g (n + 1) = some (Tr.room (g R.r0 R.c0)) := by unfold Rc.tree; rw [if_pos h]
theorem Rc.tree_no {g : Nat → Nat → Nat} {n : Nat} {R : Rc} (h : R.one g = false) (hc : (R.cuts g).head? = none) : R.tree g (n + 1) = none := by unfold Rc.tree; rw [if_neg (by rw [h]; decide), hc]
theorem Rc.tree_cut {g : Nat → Nat → Nat} {n : Nat} {R : Rc} {c : Nat × Nat} (h : R.one g = false) (hc : (R.cuts g).head? = some c) : R.tree g (n + 1) = match (R.left c).tree g n, (R.right c).tree g n with
      | some a, some b => some (Tr.cut c.1 c.2 a b)
      | _, _ => none := by
  show (if R.one g = true then some (Tr.room (g R.r0 R.c0)) else _) = _
  rw [if_neg (by rw [h]; decide), hc]
theorem Rc.stuck_one {g : Nat → Nat → Nat} {n : Nat} {R : Rc} (h : R.one g = true) : R.stuck g (n + 1) = none := by unfold Rc.stuck; rw [if_pos h]
theorem Rc.stuck_no {g : Nat → Nat → Nat} {n : Nat} {R : Rc} (h : R.one g = false) (hc : (R.cuts g).head? = none) : R.stuck g (n + 1) = some R := by unfold Rc.stuck; rw [if_neg (by rw [h]; decide), hc]
theorem Rc.stuck_cut {g : Nat → Nat → Nat} {n : Nat} {R : Rc} {c : Nat × Nat} (h : R.one g = false) (hc : (R.cuts g).head? = some c) : R.stuck g (n + 1) = match (R.left c).stuck g n with
      | some S => some S
      | none => (R.right c).stuck g n := by
  show (if R.one g = true then none else _) = _
  rw [if_neg (by rw [h]; decide), hc]
theorem head_cut {g : Nat → Nat → Nat} {R : Rc} {c : Nat × Nat} (h : (R.cuts g).head? = some c) : c ∈ R.cuts g := List.mem_of_mem_head? (by rw [h]; exact rfl)
theorem Rc.tree_stuck {g : Nat → Nat → Nat} {h wd : Nat} : ∀ {n : Nat} {R : Rc}, R.Fit h wd → R.h + R.w ≤ n → ((R.tree g n).isSome = true ↔ R.stuck g n = none)
  | 0, R, F, hn => by have := F.h1; omega
  | n + 1, R, F, hn => by
    cases h1 : R.one g
    · cases hc : (R.cuts g).head? with
      | none => rw [Rc.tree_no h1 hc, Rc.stuck_no h1 hc]; simp
      | some c =>
        have hm := Rc.cuts_mem (head_cut hc)
        have hl := Rc.fit_left F hm.2.1
        have hr := Rc.fit_right F hm.2.1
        have il := Rc.tree_stuck (g := g) (n := n) hl.1 (by omega)
        have ir := Rc.tree_stuck (g := g) (n := n) hr.1 (by omega)
        rw [Rc.tree_cut h1 hc, Rc.stuck_cut h1 hc]
        cases h2 : (R.left c).tree g n with
        | none =>
          rw [h2] at il
          cases h3 : (R.left c).stuck g n with
          | none => rw [h3] at il; simp at il
          | some S => simp
        | some a =>
          rw [h2] at il
          rw [il.1 rfl]
          cases h4 : (R.right c).tree g n with
          | none => rw [h4] at ir; simpa using ir
          | some b => rw [h4] at ir; simpa using ir
    · rw [Rc.tree_one h1, Rc.stuck_one h1]; simp

/-! # any cut will do -/
inductive Gui (g : Nat → Nat → Nat) : Rc → Prop
  | one (R : Rc) : R.one g = true → Gui g R
  | cut (R : Rc) (c : Nat × Nat) : c.1 < 2 → R.ins c = true → R.free g c = true → Gui g (R.left c) → Gui g (R.right c) → Gui g R
def Rc.sub (S R : Rc) : Prop := R.r0 ≤ S.r0 ∧ S.r0 + S.h ≤ R.r0 + R.h ∧ R.c0 ≤ S.c0 ∧ S.c0 + S.w ≤ R.c0 + R.w
theorem Gui.sub {g : Nat → Nat → Nat} {R : Rc} (G : Gui g R) : ∀ S : Rc, S.sub R → 1 ≤ S.h → 1 ≤ S.w → Gui g S := by
  induction G with
  | one R h =>
    intro S hs h1 h2
    refine .one S ?_
    rw [Rc.one_iff] at h ⊢
    obtain ⟨a, b, c, d⟩ := hs
    intro i j hij
    obtain ⟨p, q, r, s⟩ := hij
    rw [h i j ⟨by omega, by omega, by omega, by omega⟩, h S.r0 S.c0 ⟨by omega, by omega, by omega, by omega⟩]
  | cut R c hw hi hf gl gr il ir =>
    intro S hs h1 h2
    obtain ⟨a, b, c1, d⟩ := hs
    by_cases h0 : c.1 = 0
    · rw [Rc.ins_up h0] at hi
      rw [Rc.free_up h0] at hf
      rw [Rc.left_up h0] at il
      rw [Rc.right_up h0] at ir
      by_cases hl : S.c0 + S.w ≤ c.2
      · exact il S ⟨a, b, c1, by show S.c0 + S.w ≤ R.c0 + (c.2 - R.c0); omega⟩ h1 h2
      · by_cases hr : c.2 ≤ S.c0
        · exact ir S ⟨a, b, hr, by show S.c0 + S.w ≤ c.2 + (R.c0 + R.w - c.2); omega⟩ h1 h2
        · refine .cut S c hw ((Rc.ins_up h0).2 ⟨by omega, by omega⟩) ((Rc.free_up h0).2 fun i p q => hf i (by omega) (by omega)) ?_ ?_
          · rw [Rc.left_up h0]; exact il _ ⟨a, b, c1, by show S.c0 + (c.2 - S.c0) ≤ R.c0 + (c.2 - R.c0); omega⟩ h1 (by show 1 ≤ c.2 - S.c0; omega)
          · rw [Rc.right_up h0]; exact ir _ ⟨a, b, Nat.le_refl _, by show c.2 + (S.c0 + S.w - c.2) ≤ c.2 + (R.c0 + R.w - c.2); omega⟩ h1 (by show 1 ≤ S.c0 + S.w - c.2; omega)
    · rw [Rc.ins_lv h0] at hi
      rw [Rc.free_lv h0] at hf
      rw [Rc.left_lv h0] at il
      rw [Rc.right_lv h0] at ir
      by_cases hl : S.r0 + S.h ≤ c.2
      · exact il S ⟨a, by show S.r0 + S.h ≤ R.r0 + (c.2 - R.r0); omega, c1, d⟩ h1 h2
      · by_cases hr : c.2 ≤ S.r0
        · exact ir S ⟨hr, by show S.r0 + S.h ≤ c.2 + (R.r0 + R.h - c.2); omega, c1, d⟩ h1 h2
        · refine .cut S c hw ((Rc.ins_lv h0).2 ⟨by omega, by omega⟩) ((Rc.free_lv h0).2 fun i p q => hf i (by omega) (by omega)) ?_ ?_
          · rw [Rc.left_lv h0]; exact il _ ⟨a, by show S.r0 + (c.2 - S.r0) ≤ R.r0 + (c.2 - R.r0); omega, c1, d⟩ (by show 1 ≤ c.2 - S.r0; omega) h2
          · rw [Rc.right_lv h0]; exact ir _ ⟨Nat.le_refl _, by show c.2 + (S.r0 + S.h - c.2) ≤ c.2 + (R.r0 + R.h - c.2); omega, c1, d⟩ (by show 1 ≤ S.r0 + S.h - c.2; omega) h2
theorem Rc.left_sub {R : Rc} {c : Nat × Nat} (hc : R.ins c = true) : (R.left c).sub R := by
  by_cases h0 : c.1 = 0
  · rw [Rc.ins_up h0] at hc; rw [Rc.left_up h0]; exact ⟨Nat.le_refl _, Nat.le_refl _, Nat.le_refl _, by show R.c0 + (c.2 - R.c0) ≤ _; omega⟩
  · rw [Rc.ins_lv h0] at hc; rw [Rc.left_lv h0]; exact ⟨Nat.le_refl _, by show R.r0 + (c.2 - R.r0) ≤ _; omega, Nat.le_refl _, Nat.le_refl _⟩
theorem Rc.right_sub {R : Rc} {c : Nat × Nat} (hc : R.ins c = true) : (R.right c).sub R := by
  by_cases h0 : c.1 = 0
  · rw [Rc.ins_up h0] at hc; rw [Rc.right_up h0]; exact ⟨Nat.le_refl _, Nat.le_refl _, by show R.c0 ≤ c.2; omega, by show c.2 + (R.c0 + R.w - c.2) ≤ _; omega⟩
  · rw [Rc.ins_lv h0] at hc; rw [Rc.right_lv h0]; exact ⟨by show R.r0 ≤ c.2; omega, by show c.2 + (R.r0 + R.h - c.2) ≤ _; omega, Nat.le_refl _, Nat.le_refl _⟩
theorem Gui.tree {g : Nat → Nat → Nat} {h wd : Nat} (hh : h ≤ 6) (hw : wd ≤ 6) : ∀ {n : Nat} {R : Rc}, R.Fit h wd → R.h + R.w ≤ n → Gui g R → ∃ t, R.tree g n = some t
  | 0, R, F, hn, _ => by have := F.h1; omega
  | n + 1, R, F, hn, G => by
    cases h1 : R.one g
    · have hne : ∃ c, c ∈ R.cuts g := by
        cases G with
        | one _ h => rw [h1] at h; cases h
        | cut _ c a b d _ _ => exact ⟨c, Rc.mem_cuts F hh hw a b d⟩
      obtain ⟨c0, hc0⟩ := hne
      cases hc : (R.cuts g).head? with
      | none => rw [List.head?_eq_none_iff] at hc; rw [hc] at hc0; cases hc0
      | some c =>
        have hm := Rc.cuts_mem (head_cut hc)
        have hl := Rc.fit_left F hm.2.1
        have hr := Rc.fit_right F hm.2.1
        obtain ⟨a, ha⟩ := Gui.tree hh hw (n := n) hl.1 (by omega) (G.sub _ (Rc.left_sub hm.2.1) hl.1.h1 hl.1.w1)
        obtain ⟨b, hb⟩ := Gui.tree hh hw (n := n) hr.1 (by omega) (G.sub _ (Rc.right_sub hm.2.1) hr.1.h1 hr.1.w1)
        rw [Rc.tree_cut h1 hc, ha, hb]
        exact ⟨_, rfl⟩
    · exact ⟨_, Rc.tree_one h1⟩
/-! # least depths, numbers of ways -/
def minO (m : Option Nat) (d : Nat) : Option Nat := some (match m with | none => d | some b => min b d)
def leastO (l : List Nat) : Option Nat := l.foldl minO none
def Rc.deep (g : Nat → Nat → Nat) : Nat → Rc → Nat
  | 0, _ => 0
  | n + 1, R => if R.one g = true then 0 else (leastO ((R.cuts g).map fun c => 1 + max (Rc.deep g n (R.left c)) (Rc.deep g n (R.right c)))).getD 0
/-! # rectangles that are whole rooms -/
structure Rc.Clo (R : Rc) (g : Nat → Nat → Nat) (h wd : Nat) : Prop where
  fit : R.Fit h wd
  clo : ∀ i j i' j', R.has i j → i' < h → j' < wd → g i' j' = g i j → R.has i' j'
theorem Rc.Clo.in_grid {R : Rc} {g : Nat → Nat → Nat} {h wd : Nat} (C : R.Clo g h wd) {i j : Nat} (hij : R.has i j) : i < h ∧ j < wd := by
  have := C.fit.hh; have := C.fit.hw; obtain ⟨_, _, _, _⟩ := hij; omega
theorem free_two {g : Nat → Nat → Nat} {h wd : Nat} (hg : RectG h wd g) {R : Rc} {c : Nat × Nat} (C : R.Clo g h wd) (hi : R.ins c = true) (hf : R.free g c = true) {i j i' j' : Nat} (h1 : (R.left c).has i j) (h2 : (R.right c).has i' j') : g i' j' ≠ g i j := by
  intro he
  rw [Rc.left_has hi] at h1
  rw [Rc.right_has hi] at h2
  obtain ⟨a1, a2⟩ := C.in_grid h1.1
  obtain ⟨b1, b2⟩ := C.in_grid h2.1
  obtain ⟨row, col, hi', wi, _, _, hr⟩ := hg i j a1 a2
  have q1 := (hr i j a1 a2).1 rfl
  have q2 := (hr i' j' b1 b2).1 he
  obtain ⟨u1, u2, u3, u4⟩ := h1.1
  obtain ⟨v1, v2, v3, v4⟩ := h2.1
  unfold InR at q1 q2
  by_cases h0 : c.1 = 0
  · rw [if_pos h0] at h1 h2
    rw [Rc.ins_up h0] at hi
    rw [Rc.free_up h0] at hf
    refine hf i u1 u2 (((hr i (c.2 - 1) a1 (by omega)).2 ?_).trans ((hr i c.2 a1 (by omega)).2 ?_).symm) <;> (unfold InR; omega)
  · rw [if_neg h0] at h1 h2
    rw [Rc.ins_lv h0] at hi
    rw [Rc.free_lv h0] at hf
    refine hf j u3 u4 (((hr (c.2 - 1) j (by omega) a2).2 ?_).trans ((hr c.2 j (by omega) a2).2 ?_).symm) <;> (unfold InR; omega)
theorem Rc.Clo.left {R : Rc} {g : Nat → Nat → Nat} {h wd : Nat} (hg : RectG h wd g) (C : R.Clo g h wd) {c : Nat × Nat} (hi : R.ins c = true) (hf : R.free g c = true) : (R.left c).Clo g h wd :=
  ⟨(Rc.fit_left C.fit hi).1, fun i j i' j' hij h1 h2 he => by
    have hb := C.clo i j i' j' ((Rc.left_has hi).1 hij).1 h1 h2 he
    by_cases hl : (if c.1 = 0 then j' else i') < c.2
    · exact (Rc.left_has hi).2 ⟨hb, hl⟩
    · exact absurd he (free_two hg C hi hf hij ((Rc.right_has hi).2 ⟨hb, by omega⟩))⟩
theorem Rc.Clo.right {R : Rc} {g : Nat → Nat → Nat} {h wd : Nat} (hg : RectG h wd g) (C : R.Clo g h wd) {c : Nat × Nat} (hi : R.ins c = true) (hf : R.free g c = true) : (R.right c).Clo g h wd :=
  ⟨(Rc.fit_right C.fit hi).1, fun i j i' j' hij h1 h2 he => by
    have hb := C.clo i j i' j' ((Rc.right_has hi).1 hij).1 h1 h2 he
    by_cases hl : (if c.1 = 0 then j' else i') < c.2
    · exact absurd he.symm (free_two hg C hi hf ((Rc.left_has hi).2 ⟨hb, hl⟩) hij)
    · exact (Rc.right_has hi).2 ⟨hb, by omega⟩⟩
/-- the rooms of a rectangle -/
def Rc.room (g : Nat → Nat → Nat) (R : Rc) (a : Nat) : Bool := (List.range R.h).any fun i => (List.range R.w).any fun j => decide (g (R.r0 + i) (R.c0 + j) = a)
theorem Rc.room_iff {g : Nat → Nat → Nat} {R : Rc} {a : Nat} : R.room g a = true ↔ ∃ i j, R.has i j ∧ g i j = a := by
  unfold Rc.room
  rw [List.any_eq_true]
  constructor
  · rintro ⟨i, hi, h⟩
    rw [List.any_eq_true] at h
    obtain ⟨j, hj, h⟩ := h
    rw [List.mem_range] at hi hj
    rw [decide_eq_true_eq] at h
    exact ⟨_, _, ⟨by omega, by omega, by omega, by omega⟩, h⟩
  · rintro ⟨i, j, ⟨h1, h2, h3, h4⟩, h⟩
    refine ⟨i - R.r0, List.mem_range.2 (by omega), ?_⟩
    rw [List.any_eq_true]
    refine ⟨j - R.c0, List.mem_range.2 (by omega), ?_⟩
    rw [decide_eq_true_eq, show R.r0 + (i - R.r0) = i by omega, show R.c0 + (j - R.c0) = j by omega]
    exact h
def Rc.rooms (g : Nat → Nat → Nat) (r : Nat) (R : Rc) : List Nat := (List.range r).filter (R.room g)
theorem Rc.mem_rooms {g : Nat → Nat → Nat} {r : Nat} {R : Rc} {a : Nat} : a ∈ R.rooms g r ↔ a < r ∧ R.room g a = true := by
  unfold Rc.rooms; rw [List.mem_filter, List.mem_range]
theorem Rc.rooms_few {g : Nat → Nat → Nat} {r : Nat} {R : Rc} : (R.rooms g r).length ≤ r := by
  unfold Rc.rooms; have := List.length_filter_le (R.room g) (List.range r); rwa [List.length_range] at this
theorem one_of_nodup {α : Type} {l : List α} {v : α} (hn : l.Nodup) (hm : ∀ x, x ∈ l ↔ x = v) : l = [v] := by
  match l, hn, hm with
  | [], _, hm => exact absurd ((hm v).2 rfl) (List.not_mem_nil)
  | [a], _, hm => rw [(hm a).1 List.mem_cons_self]
  | a :: b :: t, hn, hm =>
    have e1 := (hm a).1 List.mem_cons_self
    have e2 := (hm b).1 (List.mem_cons_of_mem _ List.mem_cons_self)
    rw [List.nodup_cons] at hn
    exact absurd (by rw [e1, ← e2]; exact List.mem_cons_self) hn.1
theorem Rc.rooms_one {g : Nat → Nat → Nat} {r h wd : Nat} {R : Rc} (F : R.Fit h wd) (hr : ∀ i j, i < h → j < wd → g i j < r) (h1 : R.one g = true) : R.rooms g r = [g R.r0 R.c0] := by
  have := F.h1; have := F.w1; have := F.hh; have := F.hw
  have hc : R.has R.r0 R.c0 := ⟨by omega, by omega, by omega, by omega⟩
  refine one_of_nodup (List.nodup_range.filter _) fun x => ?_
  rw [Rc.mem_rooms, Rc.room_iff]
  rw [Rc.one_iff] at h1
  constructor
  · rintro ⟨_, i, j, hij, rfl⟩; exact h1 i j hij
  · rintro rfl; exact ⟨hr _ _ (by omega) (by omega), _, _, hc, rfl⟩
theorem Rc.rooms_two {g : Nat → Nat → Nat} {r h wd : Nat} {R : Rc} (F : R.Fit h wd) (hr : ∀ i j, i < h → j < wd → g i j < r) (h1 : R.one g = false) : 2 ≤ (R.rooms g r).length := by
  have := F.h1; have := F.w1; have := F.hh; have := F.hw
  have hc : R.has R.r0 R.c0 := ⟨by omega, by omega, by omega, by omega⟩
  have hin : ∀ i j, R.has i j → g i j ∈ R.rooms g r := fun i j hij => by
    rw [Rc.mem_rooms, Rc.room_iff]
    obtain ⟨a, b, c, d⟩ := hij
    exact ⟨hr _ _ (by omega) (by omega), i, j, ⟨a, b, c, d⟩, rfl⟩
  match hL : R.rooms g r with
  | [] => have := hin _ _ hc; rw [hL] at this; cases this
  | [a] =>
    exfalso
    rw [show R.one g = true from Rc.one_iff.2 fun i j hij => by
      have e1 := hin i j hij
      have e2 := hin _ _ hc
      rw [hL, List.mem_singleton] at e1 e2
      rw [e1, e2]] at h1
    cases h1
  | a :: b :: t => simp

end Go.Proofs.Ytpgcpmfemcfoaaa

/-
  Plans that are cut: parts of rooms with their boxes. Plain mathematics; no function of the program is named.
-/
namespace Go.Proofs.Ytpgcpmfemcfoaaa
open Go.RowKit

/-- a grid whose rooms are told by boxes -/
structure Boxy (h wd : Nat) (g : Nat → Nat → Nat) (r : Nat) (bx : Nat → Bx) : Prop where
  hh : h ≤ 6
  hw : wd ≤ 6
  few : r ≤ 9
  rect : RectG h wd g
  lt : ∀ i j, i < h → j < wd → g i j < r
  high : ∀ a, a < r → 1 ≤ (bx a).high
  wide : ∀ a, a < r → 1 ≤ (bx a).wide
  bot : ∀ a, a < r → (bx a).row + (bx a).high ≤ h
  end_ : ∀ a, a < r → (bx a).col + (bx a).wide ≤ wd
  cell : ∀ a i j, a < r → i < h → j < wd → (g i j = a ↔ InR (bx a).row (bx a).col (bx a).high (bx a).wide i j)
/-- where a box lies: 0 ahead of a line, 1 where the line goes through it, 2 behind the line -/
def sideN (c : Nat × Nat) (x : Bx) : Nat :=
  if c.1 = 0 then (if x.col + x.wide ≤ c.2 then 0 else if c.2 ≤ x.col then 2 else 1) else (if x.row + x.high ≤ c.2 then 0 else if c.2 ≤ x.row then 2 else 1)
theorem sideN_two (c : Nat × Nat) (x : Bx) : sideN c x ≤ 2 := by unfold sideN; split <;> split <;> (try split) <;> omega
theorem Boxy.has_box {h wd : Nat} {g : Nat → Nat → Nat} {r : Nat} {bx : Nat → Bx} (B : Boxy h wd g r bx) {R : Rc} (C : R.Clo g h wd) {a : Nat} (ha : a < r) (hr : R.room g a = true) {i j : Nat} (hij : InR (bx a).row (bx a).col (bx a).high (bx a).wide i j) : R.has i j := by
  rw [Rc.room_iff] at hr
  obtain ⟨i0, j0, h0, rfl⟩ := hr
  have h1 := B.bot _ ha; have h2 := B.end_ _ ha
  have q := hij
  unfold InR at q
  exact C.clo i0 j0 i j h0 (by omega) (by omega) ((B.cell _ i j ha (by omega) (by omega)).2 hij)
theorem Boxy.side_cut {h wd : Nat} {g : Nat → Nat → Nat} {r : Nat} {bx : Nat → Bx} (B : Boxy h wd g r bx) {R : Rc} (C : R.Clo g h wd) {c : Nat × Nat} (_hi : R.ins c = true) (hf : R.free g c = true) {a : Nat} (ha : a < r) (hr : R.room g a = true) : sideN c (bx a) ≠ 1 := by
  intro hs
  have h1 := B.bot _ ha; have h2 := B.end_ _ ha; have h3 := B.high _ ha; have h4 := B.wide _ ha
  by_cases h0 : c.1 = 0
  · have hx : ¬ (bx a).col + (bx a).wide ≤ c.2 ∧ ¬ c.2 ≤ (bx a).col := by
      unfold sideN at hs; rw [if_pos h0] at hs
      constructor <;> intro hx
      · rw [if_pos hx] at hs; omega
      · split at hs
        · omega
        · omega
    rw [Rc.free_up h0] at hf
    have hb := B.has_box C ha hr (i := (bx a).row) (j := c.2) ⟨by omega, by omega, by omega, by omega⟩
    refine hf (bx a).row hb.1 hb.2.1 (((B.cell a _ _ ha (by omega) (by omega)).2 ?_).trans ((B.cell a _ _ ha (by omega) (by omega)).2 ?_).symm) <;> (unfold InR; omega)
  · have hx : ¬ (bx a).row + (bx a).high ≤ c.2 ∧ ¬ c.2 ≤ (bx a).row := by
      unfold sideN at hs; rw [if_neg h0] at hs
      constructor <;> intro hx
      · rw [if_pos hx] at hs; omega
      · split at hs
        · omega
        · omega
    rw [Rc.free_lv h0] at hf
    have hb := B.has_box C ha hr (i := c.2) (j := (bx a).col) ⟨by omega, by omega, by omega, by omega⟩
    refine hf (bx a).col hb.2.2.1 hb.2.2.2 (((B.cell a _ _ ha (by omega) (by omega)).2 ?_).trans ((B.cell a _ _ ha (by omega) (by omega)).2 ?_).symm) <;> (unfold InR; omega)
theorem sideN_0 {c : Nat × Nat} {x : Bx} : sideN c x = 0 ↔ (if c.1 = 0 then x.col + x.wide else x.row + x.high) ≤ c.2 := by
  unfold sideN
  by_cases h0 : c.1 = 0
  · rw [if_pos h0, if_pos h0]
    by_cases h1 : x.col + x.wide ≤ c.2
    · rw [if_pos h1]; simp [h1]
    · rw [if_neg h1]; split <;> omega
  · rw [if_neg h0, if_neg h0]
    by_cases h1 : x.row + x.high ≤ c.2
    · rw [if_pos h1]; simp [h1]
    · rw [if_neg h1]; split <;> omega
theorem sideN_2 {c : Nat × Nat} {x : Bx} (hh : 1 ≤ x.high) (hw : 1 ≤ x.wide) : sideN c x = 2 ↔ c.2 ≤ (if c.1 = 0 then x.col else x.row) := by
  unfold sideN
  by_cases h0 : c.1 = 0
  · rw [if_pos h0, if_pos h0]
    by_cases h1 : x.col + x.wide ≤ c.2
    · rw [if_pos h1]; omega
    · rw [if_neg h1]; split <;> omega
  · rw [if_neg h0, if_neg h0]
    by_cases h1 : x.row + x.high ≤ c.2
    · rw [if_pos h1]; omega
    · rw [if_neg h1]; split <;> omega
/-- the rooms ahead of a cut, and those behind it -/
theorem Boxy.left_room {h wd : Nat} {g : Nat → Nat → Nat} {r : Nat} {bx : Nat → Bx} (B : Boxy h wd g r bx) {R : Rc} (C : R.Clo g h wd) {c : Nat × Nat} (hi : R.ins c = true) (hf : R.free g c = true) {a : Nat} (ha : a < r) :
    (R.left c).room g a = true ↔ R.room g a = true ∧ sideN c (bx a) = 0 := by
  have h3 := B.high _ ha; have h4 := B.wide _ ha
  rw [Rc.room_iff]
  constructor
  · rintro ⟨i, j, hij, rfl⟩
    rw [Rc.left_has hi] at hij
    have hr : R.room g (g i j) = true := Rc.room_iff.2 ⟨i, j, hij.1, rfl⟩
    obtain ⟨g1, g2⟩ := C.in_grid hij.1
    have hb := (B.cell _ i j ha g1 g2).1 rfl
    unfold InR at hb
    have h1 := B.side_cut C hi hf ha hr
    have h2 : sideN c (bx (g i j)) ≠ 2 := fun hx => by
      rw [sideN_2 h3 h4] at hx
      by_cases h0 : c.1 = 0
      · rw [if_pos h0] at hx hij; omega
      · rw [if_neg h0] at hx hij; omega
    have := sideN_two c (bx (g i j))
    exact ⟨hr, by omega⟩
  · rintro ⟨hr, hs⟩
    rw [Rc.room_iff] at hr
    obtain ⟨i, j, hij, rfl⟩ := hr
    obtain ⟨g1, g2⟩ := C.in_grid hij
    have hb := (B.cell _ i j ha g1 g2).1 rfl
    unfold InR at hb
    rw [sideN_0] at hs
    refine ⟨i, j, (Rc.left_has hi).2 ⟨hij, ?_⟩, rfl⟩
    by_cases h0 : c.1 = 0
    · rw [if_pos h0] at hs ⊢; omega
    · rw [if_neg h0] at hs ⊢; omega
theorem Boxy.right_room {h wd : Nat} {g : Nat → Nat → Nat} {r : Nat} {bx : Nat → Bx} (B : Boxy h wd g r bx) {R : Rc} (C : R.Clo g h wd) {c : Nat × Nat} (hi : R.ins c = true) (hf : R.free g c = true) {a : Nat} (ha : a < r) :
    (R.right c).room g a = true ↔ R.room g a = true ∧ sideN c (bx a) = 2 := by
  have h3 := B.high _ ha; have h4 := B.wide _ ha
  rw [Rc.room_iff]
  constructor
  · rintro ⟨i, j, hij, rfl⟩
    rw [Rc.right_has hi] at hij
    have hr : R.room g (g i j) = true := Rc.room_iff.2 ⟨i, j, hij.1, rfl⟩
    obtain ⟨g1, g2⟩ := C.in_grid hij.1
    have hb := (B.cell _ i j ha g1 g2).1 rfl
    unfold InR at hb
    have h1 := B.side_cut C hi hf ha hr
    have h2 : sideN c (bx (g i j)) ≠ 0 := fun hx => by
      rw [sideN_0] at hx
      by_cases h0 : c.1 = 0
      · rw [if_pos h0] at hx hij; omega
      · rw [if_neg h0] at hx hij; omega
    have := sideN_two c (bx (g i j))
    exact ⟨hr, by omega⟩
  · rintro ⟨hr, hs⟩
    rw [Rc.room_iff] at hr
    obtain ⟨i, j, hij, rfl⟩ := hr
    obtain ⟨g1, g2⟩ := C.in_grid hij
    have hb := (B.cell _ i j ha g1 g2).1 rfl
    unfold InR at hb
    rw [sideN_2 h3 h4] at hs
    refine ⟨i, j, (Rc.right_has hi).2 ⟨hij, ?_⟩, rfl⟩
    by_cases h0 : c.1 = 0
    · rw [if_pos h0] at hs ⊢; omega
    · rw [if_neg h0] at hs ⊢; omega
theorem Boxy.left_rooms {h wd : Nat} {g : Nat → Nat → Nat} {r : Nat} {bx : Nat → Bx} (B : Boxy h wd g r bx) {R : Rc} (C : R.Clo g h wd) {c : Nat × Nat} (hi : R.ins c = true) (hf : R.free g c = true) :
    (R.left c).rooms g r = (R.rooms g r).filter fun a => decide (sideN c (bx a) = 0) := by
  unfold Rc.rooms
  rw [List.filter_filter]
  refine List.filter_congr fun a ha => ?_
  rw [List.mem_range] at ha
  have := B.left_room C hi hf ha
  rw [Bool.eq_iff_iff, this, Bool.and_eq_true, decide_eq_true_eq, and_comm]
theorem Boxy.right_rooms {h wd : Nat} {g : Nat → Nat → Nat} {r : Nat} {bx : Nat → Bx} (B : Boxy h wd g r bx) {R : Rc} (C : R.Clo g h wd) {c : Nat × Nat} (hi : R.ins c = true) (hf : R.free g c = true) :
    (R.right c).rooms g r = (R.rooms g r).filter fun a => decide (sideN c (bx a) = 2) := by
  unfold Rc.rooms
  rw [List.filter_filter]
  refine List.filter_congr fun a ha => ?_
  rw [List.mem_range] at ha
  have := B.right_room C hi hf ha
  rw [Bool.eq_iff_iff, this, Bool.and_eq_true, decide_eq_true_eq, and_comm]
theorem filter_two {α : Type} (f : α → Nat) : ∀ (l : List α), (∀ x ∈ l, f x = 0 ∨ f x = 2) → (l.filter fun x => decide (f x = 0)).length + (l.filter fun x => decide (f x = 2)).length = l.length
  | [], _ => rfl
  | x :: l, h => by
    have ih := filter_two f l fun y hy => h y (List.mem_cons_of_mem _ hy)
    rcases h x List.mem_cons_self with e | e
    · rw [List.filter_cons, List.filter_cons, if_pos (by simp [e]), if_neg (by simp [e]), List.length_cons, List.length_cons]; omega
    · rw [List.filter_cons, List.filter_cons, if_neg (by simp [e]), if_pos (by simp [e]), List.length_cons, List.length_cons]; omega
theorem Boxy.rooms_pos {h wd : Nat} {g : Nat → Nat → Nat} {r : Nat} {bx : Nat → Bx} (B : Boxy h wd g r bx) {R : Rc} (C : R.Clo g h wd) : 1 ≤ (R.rooms g r).length := by
  cases h1 : R.one g
  · have := Rc.rooms_two C.fit B.lt h1; omega
  · rw [Rc.rooms_one C.fit B.lt h1]; exact Nat.le_refl _
theorem Boxy.one_len {h wd : Nat} {g : Nat → Nat → Nat} {r : Nat} {bx : Nat → Bx} (B : Boxy h wd g r bx) {R : Rc} (C : R.Clo g h wd) : R.one g = decide ((R.rooms g r).length = 1) := by
  cases h1 : R.one g
  · have := Rc.rooms_two C.fit B.lt h1
    rw [decide_eq_false (by omega)]
  · rw [Rc.rooms_one C.fit B.lt h1]; rfl
/-- a line is a cut just if no room goes over it and there are rooms on both sides -/
theorem Boxy.cut_iff {h wd : Nat} {g : Nat → Nat → Nat} {r : Nat} {bx : Nat → Bx} (B : Boxy h wd g r bx) {R : Rc} (C : R.Clo g h wd) (c : Nat × Nat) :
    R.isCut g c = true ↔ (∀ a ∈ R.rooms g r, sideN c (bx a) ≠ 1) ∧ (∃ a ∈ R.rooms g r, sideN c (bx a) = 0) ∧ (∃ a ∈ R.rooms g r, sideN c (bx a) = 2) := by
  have f1 := C.fit.h1; have f2 := C.fit.w1; have f3 := C.fit.hh; have f4 := C.fit.hw
  unfold Rc.isCut
  rw [Bool.and_eq_true]
  have hin : ∀ i j, R.has i j → g i j ∈ R.rooms g r := fun i j hij => by
    rw [Rc.mem_rooms, Rc.room_iff]
    obtain ⟨a, b⟩ := C.in_grid hij
    exact ⟨B.lt _ _ a b, i, j, hij, rfl⟩
  constructor
  · rintro ⟨hi, hf⟩
    have hno : ∀ a ∈ R.rooms g r, sideN c (bx a) ≠ 1 := fun a ha => by
      rw [Rc.mem_rooms] at ha
      exact B.side_cut C hi hf ha.1 ha.2
    refine ⟨hno, ⟨_, hin R.r0 R.c0 ⟨by omega, by omega, by omega, by omega⟩, ?_⟩, ⟨_, hin (R.r0 + R.h - 1) (R.c0 + R.w - 1) ⟨by omega, by omega, by omega, by omega⟩, ?_⟩⟩
    · have ha := B.lt R.r0 R.c0 (by omega) (by omega)
      exact ((B.left_room C hi hf ha).1 (Rc.room_iff.2 ⟨_, _, (Rc.left_has hi).2 ⟨⟨by omega, by omega, by omega, by omega⟩, by
        by_cases h0 : c.1 = 0
        · rw [Rc.ins_up h0] at hi; rw [if_pos h0]; omega
        · rw [Rc.ins_lv h0] at hi; rw [if_neg h0]; omega⟩, rfl⟩)).2
    · have ha := B.lt (R.r0 + R.h - 1) (R.c0 + R.w - 1) (by omega) (by omega)
      exact ((B.right_room C hi hf ha).1 (Rc.room_iff.2 ⟨_, _, (Rc.right_has hi).2 ⟨⟨by omega, by omega, by omega, by omega⟩, by
        by_cases h0 : c.1 = 0
        · rw [Rc.ins_up h0] at hi; rw [if_pos h0]; omega
        · rw [Rc.ins_lv h0] at hi; rw [if_neg h0]; omega⟩, rfl⟩)).2
  · rintro ⟨hno, ⟨a, ha, hsa⟩, ⟨b, hb, hsb⟩⟩
    rw [Rc.mem_rooms] at ha hb
    have a3 := B.high _ ha.1; have a4 := B.wide _ ha.1; have a1 := B.bot _ ha.1; have a2 := B.end_ _ ha.1
    have b3 := B.high _ hb.1; have b4 := B.wide _ hb.1
    have pa := B.has_box C ha.1 ha.2 (i := (bx a).row) (j := (bx a).col) ⟨by omega, by omega, by omega, by omega⟩
    have pb := B.has_box C hb.1 hb.2 (i := (bx b).row) (j := (bx b).col) ⟨by omega, by omega, by omega, by omega⟩
    rw [sideN_0] at hsa
    rw [sideN_2 b3 b4] at hsb
    obtain ⟨x1, x2, x3, x4⟩ := pa
    obtain ⟨y1, y2, y3, y4⟩ := pb
    by_cases h0 : c.1 = 0
    · rw [if_pos h0] at hsa hsb
      refine ⟨(Rc.ins_up h0).2 ⟨by omega, by omega⟩, (Rc.free_up h0).2 fun i p1 p2 he => ?_⟩
      have hu : R.has i c.2 := ⟨by omega, by omega, by omega, by omega⟩
      obtain ⟨g1, g2⟩ := C.in_grid hu
      have hm := hin i c.2 hu
      have hlt := B.lt _ _ g1 g2
      refine hno _ hm ?_
      have q1 := (B.cell _ i c.2 hlt g1 g2).1 rfl
      have q2 := (B.cell _ i (c.2 - 1) hlt g1 (by omega)).1 he
      unfold InR at q1 q2
      unfold sideN
      rw [if_pos h0, if_neg (by omega), if_neg (by omega)]
    · rw [if_neg h0] at hsa hsb
      refine ⟨(Rc.ins_lv h0).2 ⟨by omega, by omega⟩, (Rc.free_lv h0).2 fun i p1 p2 he => ?_⟩
      have hu : R.has c.2 i := ⟨by omega, by omega, by omega, by omega⟩
      obtain ⟨g1, g2⟩ := C.in_grid hu
      have hm := hin c.2 i hu
      have hlt := B.lt _ _ g1 g2
      refine hno _ hm ?_
      have q1 := (B.cell _ c.2 i hlt g1 g2).1 rfl
      have q2 := (B.cell _ (c.2 - 1) i hlt (by omega) g2).1 he
      unfold InR at q1 q2
      unfold sideN
      rw [if_neg h0, if_neg (by omega), if_neg (by omega)]

/-! # bounds of depths and of ways -/
end Go.Proofs.Ytpgcpmfemcfoaaa

/-
  Merged texts: GuiE GuiF GuiG GuiH GuiI GuiJ.
-/
/-
  Parts of plans: what they are in memory, and where their rooms lie. (Walks.)
-/
namespace Go.Proofs.Ytpgcpmfemcfoaaa
open Go.RowKit
theorem getD_putN (S : List Nat) (i a m : Nat) (hi : i < S.length) : (S.set i m).getD a 0 = if a = i then m else S.getD a 0 := by
  rw [List.getD_eq_getElem?_getD, List.getElem?_set, List.getD_eq_getElem?_getD]
  by_cases h : a = i
  · subst h; simp [hi]
  · rw [if_neg (fun e => h e.symm), if_neg h]

/-! # rooms that are put apart -/
def twoS (f : Nat → Nat) (l : List Nat) : List Nat := (l.filter fun a => decide (f a = 0)) ++ l.filter fun a => decide (f a = 2)
theorem twoS_len {f : Nat → Nat} {l : List Nat} (h : ∀ x ∈ l, f x = 0 ∨ f x = 2) : (twoS f l).length = l.length := by
  unfold twoS; rw [List.length_append]; exact filter_two f l h
theorem twoS_snoc (f : Nat → Nat) (l : List Nat) (x : Nat) (hx : f x = 0 ∨ f x = 2) : twoS f (l ++ [x]) = if f x = 0 then (l.filter fun a => decide (f a = 0)) ++ x :: (l.filter fun a => decide (f a = 2)) else twoS f l ++ [x] := by
  unfold twoS
  rw [List.filter_append, List.filter_append]
  rcases hx with h | h
  · rw [if_pos h]; simp [h]
  · rw [if_neg (by omega)]; simp [h]
def swapAt (L : List Nat) (j : Nat) : List Nat := (L.set j (L.getD (j - 1) 0)).set (j - 1) (L.getD j 0)
theorem swapAt_app (P : List Nat) (y x : Nat) (Q : List Nat) : swapAt (P ++ y :: x :: Q) (P.length + 1) = P ++ x :: y :: Q := by
  unfold swapAt
  rw [Nat.add_sub_cancel]
  have e1 : (P ++ y :: x :: Q).getD P.length 0 = y := by simp
  have e2 : (P ++ y :: x :: Q).getD (P.length + 1) 0 = x := by simp
  rw [e1, e2, List.set_append_right _ _ (by omega), List.set_append_right _ _ (by omega)]
  simp
/-- the first i rooms are put apart -/
def OutT (f : Nat → Nat) (L0 : List Nat) (i : Nat) (L : List Nat) : Prop := L = twoS f (L0.take i) ++ L0.drop i
/-- the next room goes ahead -/
def InT (f : Nat → Nat) (L0 : List Nat) (i j : Nat) (L : List Nat) : Prop :=
  ∃ P Q, L = P ++ L0.getD i 0 :: (Q ++ L0.drop (i + 1)) ∧ P.length = j ∧ P ++ Q = twoS f (L0.take i) ∧ ∀ y ∈ Q, f (L0.getD i 0) < f y
theorem take_mem {L0 : List Nat} {i x : Nat} (h : x ∈ L0.take i) : x ∈ L0 := List.mem_of_mem_take h
theorem OutT.start {f : Nat → Nat} {L0 : List Nat} (h2 : ∀ x ∈ L0, f x = 0 ∨ f x = 2) : OutT f L0 1 L0 := by
  unfold OutT
  cases L0 with
  | nil => rfl
  | cons a l =>
    have := twoS_snoc f [] a (h2 a List.mem_cons_self)
    rw [List.nil_append] at this
    show a :: l = twoS f [a] ++ l
    rw [this]
    split <;> rfl
theorem OutT.inner {f : Nat → Nat} {L0 L : List Nat} {i : Nat} (h2 : ∀ x ∈ L0, f x = 0 ∨ f x = 2) (h : OutT f L0 i L) (hi : i < L0.length) : InT f L0 i i L := by
  refine ⟨twoS f (L0.take i), [], ?_, ?_, List.append_nil _, fun y hy => by cases hy⟩
  · rw [h, List.drop_eq_getElem_cons hi, List.nil_append]; simp [hi]
  · rw [twoS_len (fun x hx => h2 x (take_mem hx)), List.length_take]; omega
theorem OutT.len {f : Nat → Nat} {L0 L : List Nat} {i : Nat} (h2 : ∀ x ∈ L0, f x = 0 ∨ f x = 2) (h : OutT f L0 i L) : L.length = L0.length := by
  rw [h, List.length_append, twoS_len (fun x hx => h2 x (take_mem hx)), List.length_take, List.length_drop]; omega
theorem twoS_mem {f : Nat → Nat} {l : List Nat} {x : Nat} (h : x ∈ twoS f l) : x ∈ l := by
  unfold twoS at h
  rw [List.mem_append, List.mem_filter, List.mem_filter] at h
  exact h.elim And.left And.left
theorem InT.facts {f : Nat → Nat} {L0 L : List Nat} {i j : Nat} (h2 : ∀ x ∈ L0, f x = 0 ∨ f x = 2) (h : InT f L0 i j L) (hi : i < L0.length) : L.length = L0.length ∧ j ≤ i ∧ ∀ y ∈ L, y ∈ L0 := by
  obtain ⟨P, Q, rfl, rfl, h3, h4⟩ := h
  have hl := twoS_len (f := f) (l := L0.take i) (fun x hx => h2 x (take_mem hx))
  rw [← h3, List.length_append, List.length_take] at hl
  refine ⟨by simp only [List.length_append, List.length_cons, List.length_drop]; omega, by omega, fun y hy => ?_⟩
  have hm : ∀ z, z ∈ P ++ Q → z ∈ L0 := fun z hz => by rw [h3] at hz; exact take_mem (twoS_mem hz)
  rw [List.mem_append, List.mem_cons, List.mem_append] at hy
  rcases hy with h | rfl | h | h
  · exact hm y (List.mem_append.2 (.inl h))
  · exact getD_mem 0 hi
  · exact hm y (List.mem_append.2 (.inr h))
  · exact List.mem_of_mem_drop h
theorem InT.two {f : Nat → Nat} {L0 L : List Nat} {i m : Nat} (h : InT f L0 i (m + 1) L) : ∃ P y Q, L = P ++ y :: L0.getD i 0 :: (Q ++ L0.drop (i + 1)) ∧ P.length = m ∧ P ++ y :: Q = twoS f (L0.take i) ∧ (∀ y ∈ Q, f (L0.getD i 0) < f y) ∧ L.getD (m + 1) 0 = L0.getD i 0 ∧ L.getD m 0 = y := by
  obtain ⟨P, Q, rfl, h1, h3, h4⟩ := h
  obtain ⟨P', y, rfl⟩ : ∃ P' y, P = P' ++ [y] := by
    rcases List.eq_nil_or_concat P with rfl | ⟨P', y, e⟩
    · cases h1
    · exact ⟨P', y, by rw [e, List.concat_eq_append]⟩
  rw [List.length_append] at h1
  have hm : P'.length = m := by simp at h1; omega
  subst hm
  refine ⟨P', y, Q, by simp, rfl, by rw [← h3]; simp, h4, ?_, ?_⟩
  · simp
  · simp
theorem InT.swap {f : Nat → Nat} {L0 L : List Nat} {i m : Nat} (h : InT f L0 i (m + 1) L) (hf : f (L.getD (m + 1) 0) < f (L.getD m 0)) : InT f L0 i m (swapAt L (m + 1)) := by
  obtain ⟨P, y, Q, rfl, h1, h3, h4, h5, h6⟩ := h.two
  rw [h5, h6] at hf
  subst h1
  rw [swapAt_app]
  refine ⟨P, y :: Q, rfl, rfl, h3, fun z hz => ?_⟩
  rcases List.mem_cons.1 hz with rfl | hz
  · exact hf
  · exact h4 z hz
theorem InT.stopAny {f : Nat → Nat} {L0 L : List Nat} {i j : Nat} (h2 : ∀ x ∈ L0, f x = 0 ∨ f x = 2) (hi : i < L0.length) (h : InT f L0 i j L) (hs : ∀ m, j = m + 1 → ¬ f (L.getD (m + 1) 0) < f (L.getD m 0)) : OutT f L0 (i + 1) L := by
  have hx := h2 _ (getD_mem 0 hi)
  have hall : ∀ x ∈ L0.take i, f x = 0 ∨ f x = 2 := fun x hx => h2 x (take_mem hx)
  have hT := twoS_snoc f (L0.take i) (L0.getD i 0) hx
  rw [← take_succ_getD L0 i 0 hi] at hT
  unfold OutT
  rw [hT]
  rcases hx with h0 | h0
  · rw [if_pos h0]
    have hlast : ∀ m, j = m + 1 → ∃ P y, (∃ Q, P ++ y :: Q = twoS f (L0.take i) ∧ P.length = m ∧ L = P ++ y :: L0.getD i 0 :: (Q ++ L0.drop (i + 1)) ∧ ∀ z ∈ Q, f (L0.getD i 0) < f z) ∧ f y = 0 := fun m hm => by
      subst hm
      obtain ⟨P, y, Q, e, h1, h3, h4, h5, h6⟩ := h.two
      have hn := hs m rfl
      rw [h5, h6, h0] at hn
      refine ⟨P, y, ⟨Q, h3, h1, e, h4⟩, by omega⟩
    obtain ⟨P, Q, rfl, h1, h3, h4⟩ := h
    unfold twoS at h3
    generalize hA : (L0.take i).filter (fun a => decide (f a = 0)) = A at *
    generalize hB : (L0.take i).filter (fun a => decide (f a = 2)) = B at *
    have hA0 : ∀ a ∈ A, f a = 0 := fun a ha => by rw [← hA, List.mem_filter] at ha; simpa using ha.2
    have hB2 : ∀ a ∈ B, f a = 2 := fun a ha => by rw [← hB, List.mem_filter] at ha; simpa using ha.2
    have hPA : P = A ∧ Q = B := by
      rcases List.append_eq_append_iff.1 h3 with ⟨X, e1, e2⟩ | ⟨X, e1, e2⟩
      · cases X with
        | nil => rw [List.append_nil] at e1; exact ⟨e1.symm, by simpa using e2⟩
        | cons z X =>
          exfalso
          have hz := hA0 z (by rw [e1]; simp)
          have := h4 z (by rw [e2]; simp)
          omega
      · cases X with
        | nil => rw [List.append_nil] at e1; exact ⟨e1, by simpa using e2.symm⟩
        | cons z X =>
          exfalso
          obtain ⟨m, hm⟩ : ∃ m, j = m + 1 := ⟨j - 1, by rw [← h1, e1]; simp; omega⟩
          obtain ⟨P2, y, ⟨Q2, g1, g2, g3, g4⟩, g5⟩ := hlast m hm
          have hlen : P.length = (P2 ++ [y]).length := by rw [h1, List.length_append, g2]; simpa using hm
          have hPe : P = P2 ++ [y] := by
            have g3' : P ++ (L0.getD i 0 :: (Q ++ L0.drop (i + 1))) = (P2 ++ [y]) ++ (L0.getD i 0 :: (Q2 ++ L0.drop (i + 1))) := by rw [g3]; simp
            exact (List.append_inj g3' hlen).1
          have hy : y ∈ z :: X := by
            have hl : (A ++ z :: X).getLast? = (P2 ++ [y]).getLast? := by rw [← e1, hPe]
            rw [List.getLast?_append, List.getLast?_concat] at hl
            cases hg : (z :: X).getLast? with
            | none => simp at hg
            | some v =>
              rw [hg] at hl
              have : v = y := by simpa using hl
              rw [← this]; exact List.mem_of_getLast? hg
          have := hB2 y (by rw [e2]; exact List.mem_append.2 (.inl hy))
          omega
    obtain ⟨rfl, rfl⟩ := hPA
    simp
  · rw [if_neg (by omega)]
    obtain ⟨P, Q, rfl, h1, h3, h4⟩ := h
    have hQ : Q = [] := by
      cases Q with
      | nil => rfl
      | cons z Q =>
        exfalso
        have h5 := h4 z List.mem_cons_self
        have h6 : z ∈ L0.take i := twoS_mem (f := f) (by rw [← h3]; simp)
        have := hall z h6
        omega
    subst hQ
    rw [List.append_nil] at h3
    rw [h3]; simp
theorem OutT.done {f : Nat → Nat} {L0 L : List Nat} {i : Nat} (hi : L0.length ≤ i) (h : OutT f L0 i L) : L = twoS f L0 := by
  rw [h, List.take_of_length_le hi, List.drop_eq_nil_of_le hi, List.append_nil]

/-! # places as cells -/
def fldP (bx : Nat → Bx) (a k : Nat) : Nat := match k with | 0 => a | 1 => (bx a).row | 2 => (bx a).col | 3 => (bx a).high | _ => (bx a).wide
def plL (bx : Nat → Bx) (L : List Nat) : List Value := (List.range (5 * L.length)).map fun k => .int .i64 ((fldP bx (L.getD (k / 5) 0) (k % 5) : Nat) : Int)
def pl1 (bx : Nat → Bx) (a : Nat) : Array Value := #[.int .i64 ((a : Nat) : Int), .int .i64 (((bx a).row : Nat) : Int), .int .i64 (((bx a).col : Nat) : Int), .int .i64 (((bx a).high : Nat) : Int), .int .i64 (((bx a).wide : Nat) : Int)]
def plX (bx : Nat → Bx) (X : Array Value) (L : List Nat) : Array Value := (plL bx L).toArray ++ X
theorem plL_len (bx : Nat → Bx) (L : List Nat) : (plL bx L).length = 5 * L.length := by simp [plL]
theorem plL_at {bx : Nat → Bx} {L : List Nat} {k : Nat} (hk : k < 5 * L.length) : (plL bx L)[k]? = some (.int .i64 ((fldP bx (L.getD (k / 5) 0) (k % 5) : Nat) : Int)) := by
  unfold plL; rw [List.getElem?_map, List.getElem?_range hk]; rfl
theorem plX_at {bx : Nat → Bx} {X : Array Value} {L : List Nat} {k : Nat} (hk : k < 5 * L.length) : (plX bx X L)[k]? = some (.int .i64 ((fldP bx (L.getD (k / 5) 0) (k % 5) : Nat) : Int)) := by
  unfold plX; rw [Array.getElem?_append_left (by rw [List.size_toArray, plL_len]; exact hk), List.getElem?_toArray, plL_at hk]
theorem plX_fld {bx : Nat → Bx} {X : Array Value} {L : List Nat} {i j : Nat} (hi : i < L.length) (hj : j < 5) : (plX bx X L)[i * 5 + j]? = some (.int .i64 ((fldP bx (L.getD i 0) j : Nat) : Int)) := by
  rw [plX_at (by omega), show (i * 5 + j) / 5 = i by omega, show (i * 5 + j) % 5 = j by omega]
theorem pl1_at (bx : Nat → Bx) (a : Nat) {j : Nat} (hj : j < 5) : (pl1 bx a)[j]? = some (.int .i64 ((fldP bx a j : Nat) : Int)) := by
  rcases (show j = 0 ∨ j = 1 ∨ j = 2 ∨ j = 3 ∨ j = 4 by omega) with rfl | rfl | rfl | rfl | rfl <;> rfl
theorem pl_cells_range {W : World} {b o : Nat} {bx : Nat → Bx} {L : List Nat} {i : Nat} (h : CellsAt W (some ⟨b, o, none⟩) (plL bx L)) (hi : i < L.length) : W.rangeAt b (o + i * 5) (pl1 bx (L.getD i 0)).toList := fun j v hv => by
  have hj : j < 5 := by have := (List.getElem?_eq_some_iff.1 hv).1; simpa [pl1] using this
  have e : (plL bx L)[i * 5 + j]? = some v := by
    rw [plL_at (by omega), show (i * 5 + j) / 5 = i by omega, show (i * 5 + j) % 5 = j by omega, ← pl1_at bx _ hj, ← hv]
    simp
  obtain ⟨b', o', he, hc⟩ := h _ _ e
  simp only [Option.some.injEq, Addr.mk.injEq, and_true] at he
  obtain ⟨rfl, rfl⟩ := he
  rw [Nat.add_assoc]; exact hc
theorem plX_cells {W : World} {g : Nat} {t : TypeId} {bx : Nat → Bx} {X : Array Value} {L : List Nat} (h : HeldB W g t (plX bx X L)) : CellsAt W (some ⟨g, 0, none⟩) (plL bx L) := fun i u hu => by
  refine ⟨g, 0, rfl, ?_⟩
  have hi : i < 5 * L.length := by rw [← plL_len bx L]; exact (List.getElem?_eq_some_iff.1 hu).1
  rw [Nat.zero_add, h.cell, plX_at hi, ← hu, plL_at hi]
theorem pl_range {W : World} {g : Nat} {t : TypeId} {bx : Nat → Bx} {X : Array Value} {L : List Nat} {i : Nat} (h : HeldB W g t (plX bx X L)) (hi : i < L.length) : W.rangeAt g (i * 5) (pl1 bx (L.getD i 0)).toList := by
  have := pl_cells_range (plX_cells h) hi
  rwa [Nat.zero_add] at this
theorem plX_put {bx : Nat → Bx} {X : Array Value} {L : List Nat} {i : Nat} (hi : i < L.length) (x : Nat) :
    (((((plX bx X L).setIfInBounds (i * 5) (.int .i64 ((fldP bx x 0 : Nat) : Int))).setIfInBounds (i * 5 + 1) (.int .i64 ((fldP bx x 1 : Nat) : Int))).setIfInBounds (i * 5 + 2) (.int .i64 ((fldP bx x 2 : Nat) : Int))).setIfInBounds (i * 5 + 3) (.int .i64 ((fldP bx x 3 : Nat) : Int))).setIfInBounds (i * 5 + 4) (.int .i64 ((fldP bx x 4 : Nat) : Int)) = plX bx X (L.set i x) := by
  apply Array.ext_getElem?
  intro k
  have hsz : (plX bx X L).size = 5 * L.length + X.size := by unfold plX; rw [Array.size_append, List.size_toArray, plL_len]
  simp only [Array.getElem?_setIfInBounds, Array.size_setIfInBounds]
  by_cases h2 : k < 5 * L.length
  · rw [plX_at (L := L.set i x) (by rw [List.length_set]; exact h2), getD_putN L i (k / 5) x hi]
    by_cases e : k / 5 = i
    · rw [if_pos e]
      rcases (show k = i * 5 ∨ k = i * 5 + 1 ∨ k = i * 5 + 2 ∨ k = i * 5 + 3 ∨ k = i * 5 + 4 by omega) with rfl | rfl | rfl | rfl | rfl
      · rw [if_neg (by omega), if_neg (by omega), if_neg (by omega), if_neg (by omega), if_pos rfl, if_pos (by omega), show i * 5 % 5 = 0 by omega]
      · rw [if_neg (by omega), if_neg (by omega), if_neg (by omega), if_pos rfl, if_pos (by omega), show (i * 5 + 1) % 5 = 1 by omega]
      · rw [if_neg (by omega), if_neg (by omega), if_pos rfl, if_pos (by omega), show (i * 5 + 2) % 5 = 2 by omega]
      · rw [if_neg (by omega), if_pos rfl, if_pos (by omega), show (i * 5 + 3) % 5 = 3 by omega]
      · rw [if_pos rfl, if_pos (by omega), show (i * 5 + 4) % 5 = 4 by omega]
    · rw [if_neg e, if_neg (by omega), if_neg (by omega), if_neg (by omega), if_neg (by omega), if_neg (by omega), plX_at h2]
  · rw [if_neg (by omega), if_neg (by omega), if_neg (by omega), if_neg (by omega), if_neg (by omega)]
    unfold plX
    rw [Array.getElem?_append_right (by rw [List.size_toArray, plL_len]; omega), Array.getElem?_append_right (by rw [List.size_toArray, plL_len, List.length_set]; omega), List.size_toArray, List.size_toArray, plL_len, plL_len, List.length_set]
theorem pl_put {W : World} {g : Nat} {t : TypeId} {bx : Nat → Bx} {X : Array Value} {L : List Nat} {i : Nat} (h : HeldB W g t (plX bx X L)) (hi : i < L.length) (x : Nat) : HeldB (W.setCells g (i * 5) (pl1 bx x).toList) g t (plX bx X (L.set i x)) := by
  rw [← plX_put hi]
  exact ((((h.set (i * 5) _).set (i * 5 + 1) _).set (i * 5 + 2) _).set (i * 5 + 3) _).set (i * 5 + 4) _
theorem gbPart (w : World) (b : Nat) (i : Nat) (v : Value) : w.grownBy (w.setCell ⟨b, i, none⟩ v) (some b) :=
  ⟨rfl, rfl, rfl, (KeepsWalks.setCell w _ v).size, fun k _ hk => Below.heap_setCell _ _ _ k (fun e => hk (by rw [e]))⟩
theorem pl_grown (w : World) (g i : Nat) (bx : Nat → Bx) (x : Nat) : w.grownBy (w.setCells g (i * 5) (pl1 bx x).toList) (some g) :=
  grownBy_trans (grownBy_trans (grownBy_trans (grownBy_trans (gbPart w g (i * 5) _) (gbPart _ g (i * 5 + 1) _)) (gbPart _ g (i * 5 + 2) _)) (gbPart _ g (i * 5 + 3) _)) (gbPart _ g (i * 5 + 4) _)
theorem pl_ones (bx : Nat → Bx) (L : List Nat) : ∀ v ∈ plL bx L, v.oneCell' = true := fun v hv => by
  unfold plL at hv
  rw [List.mem_map] at hv
  obtain ⟨k, _, rfl⟩ := hv; rfl
theorem plL_snoc (bx : Nat → Bx) (L : List Nat) (a : Nat) : plL bx (L ++ [a]) = plL bx L ++ (pl1 bx a).toList := by
  apply List.ext_getElem?
  intro k
  by_cases hk : k < 5 * L.length
  · rw [List.getElem?_append_left (by rw [plL_len]; exact hk), plL_at hk, plL_at (by rw [List.length_append]; simp; omega)]
    rw [show (L ++ [a]).getD (k / 5) 0 = L.getD (k / 5) 0 by rw [List.getD_eq_getElem?_getD, List.getD_eq_getElem?_getD, List.getElem?_append_left (by omega)]]
  · rw [List.getElem?_append_right (by rw [plL_len]; omega), plL_len]
    by_cases h2 : k < 5 * (L.length + 1)
    · rw [plL_at (by rw [List.length_append]; simp; omega)]
      obtain ⟨j, rfl⟩ : ∃ j, k = 5 * L.length + j := ⟨k - 5 * L.length, by omega⟩
      rw [Nat.add_sub_cancel_left, Array.getElem?_toList, pl1_at bx a (by omega), show (5 * L.length + j) / 5 = L.length by omega, show (5 * L.length + j) % 5 = j by omega]
      simp
    · rw [List.getElem?_eq_none (by rw [plL_len, List.length_append]; simp; omega), List.getElem?_eq_none (by simp [pl1]; omega)]
theorem Try.sizePl : (Try.prog.info? 126).map (·.size) = some 5 := by kernel_rfl
theorem Try.infoPl : (Try.prog.info? 126).map (fun i => (i.zero, i.size, i.bytes)) = some (some (.agg #[.int .i64 0, .int .i64 0, .int .i64 0, .int .i64 0, .int .i64 0]), 5, 40) := by kernel_rfl

end Go.Proofs.Ytpgcpmfemcfoaaa

/-
  Parts of plans: on which side of a line rooms lie; rooms are put apart. (Walks.)
-/
namespace Go.Proofs.Ytpgcpmfemcfoaaa
open Go.RowKit

def ctC (c : Nat × Nat) : Array Value := #[.int .i64 ((c.1 : Nat) : Int), .int .i64 ((c.2 : Nat) : Int)]
def bxC (x : Bx) : Array Value := #[.int .i64 (x.row : Nat), .int .i64 (x.col : Nat), .int .i64 (x.high : Nat), .int .i64 (x.wide : Nat)]
/-- what the program tells of a side -/
def sideI (c : Nat × Nat) (x : Bx) : Int := (sideN c x : Nat) - 1
theorem sideI_up {c : Nat × Nat} {x : Bx} (h : c.1 = 0) : sideI c x = if x.col + x.wide ≤ c.2 then -1 else if c.2 ≤ x.col then 1 else 0 := by
  unfold sideI sideN; rw [if_pos h]; split
  · rfl
  · split <;> rfl
theorem sideI_lv {c : Nat × Nat} {x : Bx} (h : ¬ c.1 = 0) : sideI c x = if x.row + x.high ≤ c.2 then -1 else if c.2 ≤ x.row then 1 else 0 := by
  unfold sideI sideN; rw [if_neg h]; split
  · rfl
  · split <;> rfl
set_option maxRecDepth 100000 in
set_option maxHeartbeats 2000000 in
theorem side_any (c : Nat × Nat) (x : Bx) (w : World) (h1 : c.1 < 2) (h2 : c.2 < 6) :
    Calls Try.prog 109 #[.agg (ctC c), .agg (bxC x)] w fun e w' => e = .returned (.int .i64 (sideI c x)) ∧ Below w.heap.size w w' := by
  have bC := (HeldB.new w 132 (ctC c)).alloc (.cells (bxC x) 100)
  have bX := HeldB.new (w.alloc (.cells (ctC c) 132)) 100 (bxC x)
  simp only [World.size_alloc] at bX
  have hb0 : Below w.heap.size w ((w.alloc (.cells (ctC c) 132)).alloc (.cells (bxC x) 100)) := ((Below.refl _ w).alloc (Nat.le_refl _) _).alloc (by simp) _
  have c0 := bC.cell 0; have c1 := bC.cell 1
  have x0 := bX.cell 0; have x1 := bX.cell 1; have x2 := bX.cell 2; have x3 := bX.cell 3
  rw [show (ctC c)[0]? = some (.int .i64 ((c.1 : Nat) : Int)) from rfl] at c0
  rw [show (ctC c)[1]? = some (.int .i64 ((c.2 : Nat) : Int)) from rfl] at c1
  rw [show (bxC x)[0]? = some (.int .i64 ((x.row : Nat) : Int)) from rfl] at x0
  rw [show (bxC x)[1]? = some (.int .i64 ((x.col : Nat) : Int)) from rfl] at x1
  rw [show (bxC x)[2]? = some (.int .i64 ((x.high : Nat) : Int)) from rfl] at x2
  rw [show (bxC x)[3]? = some (.int .i64 ((x.wide : Nat) : Int)) from rfl] at x3
  have hr := x.hrow; have hcl := x.hcol
  have HB0 := Lib.hid hb0
  clear bC bX hb0
  obtain ⟨way, line⟩ := c
  simp only at h1 h2 c0 c1
  unfold ctC bxC at *
  rcases (show way = 0 ∨ way = 1 by omega) with h0 | h0
  · have hs := sideI_up (c := (way, line)) (x := x) h0
    subst h0
    rw [show ((0 : Nat) : Int) = 0 from rfl] at c0 HB0
    change Calls _ _ #[.agg #[.int .i64 0, .int .i64 (line : Nat)], _] w _
    simp only at hs
    generalize sideI (0, line) x = R at *
    generalize x.row = r at *; generalize x.col = l at *; generalize x.high = hi at *; generalize x.wide = wi at *
    by_cases g1 : l + wi ≤ line
    · rw [if_pos g1] at hs
      have HS := Lib.hid hs
      have g1I : decide ((l : Int) + (wi : Int) ≤ (line : Int)) = true := by rw [decide_eq_true_eq]; omega
      clear hs
      go_enter Try.func109, Try.ntmps109
      go_wp2
      go_quiet (fail)
      go_wp2
      go_ret
      exact ⟨by rw [HS.out]; rfl, HB0.out.trans (below_drewN _ _ _)⟩
    · rw [if_neg g1] at hs
      have g1I : decide ((l : Int) + (wi : Int) ≤ (line : Int)) = false := by rw [decide_eq_false_iff_not]; omega
      by_cases g2 : line ≤ l
      · rw [if_pos g2] at hs
        have HS := Lib.hid hs
        have g2I : decide ((line : Int) ≤ (l : Int)) = true := by rw [decide_eq_true_eq]; omega
        clear hs
        go_enter Try.func109, Try.ntmps109
        go_wp2
        go_quiet (fail)
        go_wp2
        go_ret
        exact ⟨by rw [HS.out]; rfl, HB0.out.trans (below_drewN _ _ _)⟩
      · rw [if_neg g2] at hs
        have HS := Lib.hid hs
        have g2I : decide ((line : Int) ≤ (l : Int)) = false := by rw [decide_eq_false_iff_not]; omega
        clear hs
        go_enter Try.func109, Try.ntmps109
        go_wp2
        go_quiet (fail)
        go_wp2
        go_ret
        exact ⟨by rw [HS.out]; rfl, HB0.out.trans (below_drewN _ _ _)⟩
  · have hs := sideI_lv (c := (way, line)) (x := x) (by show ¬ way = 0; omega)
    subst h0
    rw [show ((1 : Nat) : Int) = 1 from rfl] at c0 HB0
    change Calls _ _ #[.agg #[.int .i64 1, .int .i64 (line : Nat)], _] w _
    simp only at hs
    generalize sideI (1, line) x = R at *
    generalize x.row = r at *; generalize x.col = l at *; generalize x.high = hi at *; generalize x.wide = wi at *
    by_cases g1 : r + hi ≤ line
    · rw [if_pos g1] at hs
      have HS := Lib.hid hs
      have g1I : decide ((r : Int) + (hi : Int) ≤ (line : Int)) = true := by rw [decide_eq_true_eq]; omega
      clear hs
      go_enter Try.func109, Try.ntmps109
      go_wp2
      go_quiet (fail)
      go_wp2
      go_quiet (fail)
      go_wp2
      go_ret
      exact ⟨by rw [HS.out]; rfl, HB0.out.trans (below_drewN _ _ _)⟩
    · rw [if_neg g1] at hs
      have g1I : decide ((r : Int) + (hi : Int) ≤ (line : Int)) = false := by rw [decide_eq_false_iff_not]; omega
      by_cases g2 : line ≤ r
      · rw [if_pos g2] at hs
        have HS := Lib.hid hs
        have g2I : decide ((line : Int) ≤ (r : Int)) = true := by rw [decide_eq_true_eq]; omega
        clear hs
        go_enter Try.func109, Try.ntmps109
        go_wp2
        go_quiet (fail)
        go_wp2
        go_quiet (fail)
        go_wp2
        go_ret
        exact ⟨by rw [HS.out]; rfl, HB0.out.trans (below_drewN _ _ _)⟩
      · rw [if_neg g2] at hs
        have HS := Lib.hid hs
        have g2I : decide ((line : Int) ≤ (r : Int)) = false := by rw [decide_eq_false_iff_not]; omega
        clear hs
        go_enter Try.func109, Try.ntmps109
        go_wp2
        go_quiet (fail)
        go_wp2
        go_quiet (fail)
        go_wp2
        go_ret
        exact ⟨by rw [HS.out]; rfl, HB0.out.trans (below_drewN _ _ _)⟩

/-- the comparison of two sides -/
theorem cmp_side {c : Nat × Nat} {x y : Bx} : cmpI (sideI c x) (sideI c y) < 0 ↔ sideN c x < sideN c y := by
  unfold cmpI sideI; split
  · omega
  · split <;> omega
theorem pl_box {W : World} {B : Nat} {t : TypeId} {bx : Nat → Bx} {a : Nat} (h : HeldB W B t (pl1 bx a)) : W.rangeAt B 1 (bxC (bx a)).toList := fun j v hv => by
  have hj : j < 4 := by have := (List.getElem?_eq_some_iff.1 hv).1; simpa [bxC] using this
  rw [h.cell, ← hv]
  rcases (show j = 0 ∨ j = 1 ∨ j = 2 ∨ j = 3 by omega) with rfl | rfl | rfl | rfl <;> rfl
theorem Try.sizeBx : (Try.prog.info? 100).map (·.size) = some 4 := by kernel_rfl
theorem Try.sizeCt : (Try.prog.info? 132).map (·.size) = some 2 := by kernel_rfl
set_option maxRecDepth 100000 in
set_option maxHeartbeats 2000000 in
theorem apartCmp_any (c : Nat × Nat) (bx : Nat → Bx) (a b B : Nat) (w : World) (h1 : c.1 < 2) (h2 : c.2 < 6) (hB : HeldB w B 132 (ctC c)) :
    Calls Try.prog 111 #[.agg (pl1 bx a), .agg (pl1 bx b), .pointer (some ⟨B, 0, none⟩)] w fun e w' => e = .returned (.int .i64 (cmpI (sideI c (bx a)) (sideI c (bx b)))) ∧ Below w.heap.size w w' := by
  have HS := Lib.hid (fun (x : Bx) (w : World) => side_any c x w h1 h2)
  have HCM := Lib.hid (fun a b w => compare_any a b w)
  have bA := (HeldB.new w 126 (pl1 bx a)).alloc (.cells (pl1 bx b) 126)
  have bB := HeldB.new (w.alloc (.cells (pl1 bx a) 126)) 126 (pl1 bx b)
  simp only [World.size_alloc] at bB
  have hb0 : Below w.heap.size w ((w.alloc (.cells (pl1 bx a) 126)).alloc (.cells (pl1 bx b) 126)) := ((Below.refl _ w).alloc (Nat.le_refl _) _).alloc (by simp) _
  have bC := (hB.alloc (.cells (pl1 bx a) 126)).alloc (.cells (pl1 bx b) 126)
  have rA := pl_box bA; have rB := pl_box bB
  have rC := bC.range
  have HCI0 := Lib.hid (show (Try.prog.info? 132).map (·.size) = some (ctC c).toList.length by rw [Try.sizeCt]; rfl)
  have HXA := Lib.hid (show (Try.prog.info? 100).map (·.size) = some (bxC (bx a)).toList.length by rw [Try.sizeBx]; rfl)
  have HXB := Lib.hid (show (Try.prog.info? 100).map (·.size) = some (bxC (bx b)).toList.length by rw [Try.sizeBx]; rfl)
  generalize hX : sideI c (bx a) = X at *
  generalize hY : sideI c (bx b) = Y at *
  have HSA := Lib.hid (fun w => HS.out (bx a) w)
  have HSB := Lib.hid (fun w => HS.out (bx b) w)
  rw [hX] at HSA
  rw [hY] at HSB
  have HB0 := Lib.hid hb0
  clear hX hY HS bA bB hB hb0
  generalize bxC (bx a) = XA at *
  generalize bxC (bx b) = XB at *
  generalize ctC c = CC at *
  generalize pl1 bx a = PA at *
  generalize pl1 bx b = PB at *
  go_enter Try.func111, Try.ntmps111
  go_wp2
  have hb1 := HB0.out
  clear HB0
  generalize (w.alloc (.cells PA 126)).alloc (.cells PB 126) = W0 at *
  have HCL := Lib.hid (fun (d : Nat) (os : Array Obj) => Calls.regrown_of (HSA.out (Sort.grow (redrawn W0 d) os)))
  have HCR := Lib.hid (fun (d : Nat) (os : Array Obj) => Calls.regrown_of (HSB.out (Sort.grow (redrawn W0 d) os)))
  have HCC := Lib.hid (fun (d : Nat) (os : Array Obj) => Calls.regrown_of ((HCM.out X Y (Sort.grow (redrawn W0 d) os)).mono (by rintro e w' ⟨rfl, rfl⟩; exact ⟨rfl, Below.refl _ _⟩)))
  have HRA := Lib.hid (range_regrown rA); have HRB := Lib.hid (range_regrown rB); have HRC := Lib.hid (range_regrown rC)
  clear rA rB rC HSA HSB HCM
  refine wp_region_quiet_below (by kernel_rfl) (by kernel_rfl) ?_
  refine wpQuiet_load_mid (by rfl) 132 _ rfl B 0 (by rfl) CC.toList CC rfl _ HRC.out Try.underlying132 rfl HCI0.out ?_
  go_simp
  repeat (first | go_big_quiet_step (fail) | quiet_step (fail))
  refine wpQuiet_load_mid (by rfl) 100 _ rfl w.heap.size 1 (by rfl) XA.toList XA rfl _ HRA.out Try.underlying100 rfl HXA.out ?_
  go_simp
  repeat (first | go_big_quiet_step (with_reducible exact HCL.out _ _) | quiet_step (with_reducible exact HCL.out _ _))
  refine wpQuiet_load_mid (by rfl) 132 _ rfl B 0 (by rfl) CC.toList CC rfl _ HRC.out Try.underlying132 rfl HCI0.out ?_
  go_simp
  repeat (first | go_big_quiet_step (fail) | quiet_step (fail))
  refine wpQuiet_load_mid (by rfl) 100 _ rfl (w.heap.size + 1) 1 (by rfl) XB.toList XB rfl _ HRB.out Try.underlying100 rfl HXB.out ?_
  go_simp
  repeat (first | go_big_quiet_step (with_reducible exact HCR.out _ _) | quiet_step (with_reducible exact HCR.out _ _) | go_big_quiet_step (with_reducible exact HCC.out _ _) | quiet_step (with_reducible exact HCC.out _ _))
  refine wpQuiet_nil ?_
  intro r7
  have hb7 := hb1.trans ((below_regrown W0 r7.d r7.os).mono hb1.size)
  generalize Sort.grow (redrawn W0 r7.d) r7.os = W7 at *
  go_wp2
  go_ret
  exact ⟨rfl, hb7⟩

end Go.Proofs.Ytpgcpmfemcfoaaa

/-
  Parts of plans: rooms are put apart by an insertion sort. (Walks.)
-/
namespace Go.Proofs.Ytpgcpmfemcfoaaa
open Go.RowKit

theorem cmpI_yes {a b : Int} (h : cmpI a b < 0) : cmpI a b = -1 := by
  unfold cmpI at h ⊢; split
  · rfl
  · rename_i h1; rw [if_neg h1] at h; split at h <;> omega
theorem cmpI_no {a b : Int} (h : ¬ cmpI a b < 0) : ∃ k : Nat, cmpI a b = (k : Int) := by
  unfold cmpI at h ⊢; split
  · rename_i h1; rw [if_pos h1] at h; omega
  · split
    · exact ⟨1, rfl⟩
    · exact ⟨0, rfl⟩
set_option maxRecDepth 100000 in
set_option maxHeartbeats 8000000 in
theorem insertionP_any (c : Nat × Nat) (bx : Nat → Bx) (B : Nat) (X : Array Value) (r g cap : Nat) (L0 : List Nat) (w : World) (hr : r ≤ 9) (h1 : c.1 < 2) (h2 : c.2 < 6) (hl : L0.length = r) (hf : ∀ x ∈ L0, sideN c (bx x) = 0 ∨ sideN c (bx x) = 2) (hBg : B ≠ g)
    (hK : HeldB w B 132 (ctC c)) (hB : HeldB w g 126 (plX bx X L0)) :
    Calls Try.prog 142 #[.slice (some ⟨g, 0, none⟩) r cap, .int .i64 0, .int .i64 (r : Int), .func (.func 111) #[] #[.pointer (some ⟨B, 0, none⟩)]] w
      fun e w' => e = .returned (.tuple #[]) ∧ HeldB w' g 126 (plX bx X (twoS (fun a => sideN c (bx a)) L0)) ∧ w.grownBy w' (some g) := by
  have HFW := Lib.hid (fun a b (w : World) (hK : HeldB w B 132 (ctC c)) => apartCmp_any c bx a b B w h1 h2 hK)
  have h0 := OutT.start (f := fun a => sideN c (bx a)) hf
  have HF := Lib.hid hf
  have HCY := Lib.hid (fun a b (h : sideN c (bx a) < sideN c (bx b)) => cmpI_yes (cmp_side.2 h))
  have HCN := Lib.hid (fun a b (h : ¬ sideN c (bx a) < sideN c (bx b)) => cmpI_no (fun h' => h (cmp_side.1 h')))
  have HLL := Lib.hid hl
  clear hf
  have HCMP := Lib.hid (fun a b => (⟨HCY.out a b, HCN.out a b⟩ : _ ∧ _))
  clear HCY HCN
  obtain ⟨f, hff⟩ : ∃ f : Nat → Nat, (fun a => sideN c (bx a)) = f := ⟨_, rfl⟩
  have HFF := Lib.hid (fun a => (congrFun hff a : sideN c (bx a) = f a))
  rw [hff] at h0 ⊢
  obtain ⟨z, hz⟩ : ∃ z : Nat → Nat → Int, (fun a b => cmpI (sideI c (bx a)) (sideI c (bx b))) = z := ⟨_, rfl⟩
  have hzz : ∀ a b, cmpI (sideI c (bx a)) (sideI c (bx b)) = z a b := fun a b => congrFun (congrFun hz a) b
  have HZ := Lib.hid (fun a b => (⟨fun h => by rw [← hzz]; exact (HCMP.out a b).1 (by rw [HFF.out, HFF.out]; exact h), fun h => by rw [← hzz]; exact (HCMP.out a b).2 (by rw [HFF.out, HFF.out]; exact h)⟩ : (f a < f b → z a b = -1) ∧ (¬ f a < f b → ∃ k : Nat, z a b = (k : Int))))
  have HF2 := Lib.hid (fun x hx => by have := HF.out x hx; rw [HFF.out] at this; exact this : ∀ x ∈ L0, f x = 0 ∨ f x = 2)
  have HFW2 := Lib.hid (fun a b w hK => by have := HFW.out a b w hK; rw [hzz] at this; exact this)
  clear HFW HF HCMP HFF hff hz hzz
  generalize ctC c = CC at *
  have hG0 : w.grownBy w (some g) := grownBy_of_below (Below.refl _ _) _
  go_enter Try.func142, Try.ntmps142
  go_wp2
  go_loopw [8, 9] (fun vi _ wr => ∃ (i : Nat) (L : List Nat), vi = .int .i64 (i : Int) ∧ i ≤ r + 1 ∧ HeldB wr g 126 (plX bx X L) ∧ OutT f L0 i L ∧ w.grownBy wr (some g) ∧ HeldB wr B 132 CC) (fun vi _ _ => r + 1 - (intOf vi).toNat)
  case atStart => exact ⟨1, L0, rfl, by omega, hB, h0, hG0, hK⟩
  case round =>
    clear hB h0 hG0 hK
    obtain ⟨i, L, rfl, hi, hH, hI, hG, hKr⟩ := hrel
    by_cases hir : i < r
    · have hJ := hI.inner HF2.out (by rw [HLL.out]; exact hir)
      clear hI
      go_wp2
      go_loopw [9] (fun vj wr => ∃ (j : Nat) (L : List Nat), vj = .int .i64 (j : Int) ∧ HeldB wr g 126 (plX bx X L) ∧ InT f L0 i j L ∧ w.grownBy wr (some g) ∧ HeldB wr B 132 CC) (fun vj _ => (intOf vj).toNat)
      case atStart => exact ⟨i, L, rfl, hH, hJ, hG, hKr⟩
      case round =>
        clear hH hJ hG hKr
        obtain ⟨j, L, rfl, hH, hJ, hG, hKr⟩ := hrel
        obtain ⟨hlen, hji, hmem⟩ := hJ.facts HF2.out (by rw [HLL.out]; exact hir)
        rw [HLL.out] at hlen
        by_cases h1 : 1 ≤ j
        · obtain ⟨m, hm⟩ : ∃ m, j = m + 1 := ⟨j - 1, by omega⟩
          have hjr : j < r := by omega
          have hstop : ¬ f (L.getD j 0) < f (L.getD m 0) → OutT f L0 (i + 1) L := fun h => hJ.stopAny HF2.out (by rw [HLL.out]; exact hir) (fun m' hm' => by
            have : m' = m := by omega
            subst this
            rw [← hm']; exact h)
          have hswap : f (L.getD j 0) < f (L.getD m 0) → InT f L0 i m (swapAt L j) := fun h => by
            subst hm; exact hJ.swap h
          have HRA := Lib.hid (fun (W : World) (h : HeldB W g 126 (plX bx X L)) => pl_range (i := j) h (by omega))
          have HRB := Lib.hid (fun (W : World) (h : HeldB W g 126 (plX bx X L)) => pl_range (i := m) h (by omega))
          have HPU := Lib.hid (fun (W : World) (L' : List Nat) (hl : L'.length = r) (h : HeldB W g 126 (plX bx X L')) => (⟨fun x => pl_put (i := j) h (by omega) x, fun x => pl_put (i := m) h (by omega) x⟩ : (∀ x, HeldB (W.setCells g (j * 5) (pl1 bx x).toList) g 126 (plX bx X (L'.set j x))) ∧ ∀ x, HeldB (W.setCells g (m * 5) (pl1 bx x).toList) g 126 (plX bx X (L'.set m x))))
          have hsw : swapAt L j = (L.set j (L.getD m 0)).set m (L.getD j 0) := by unfold swapAt; rw [show j - 1 = m by omega]
          have HSE := Lib.hid hsw; clear hsw
          have HCE := Lib.hid (fun k (hk : k < 5) => (⟨plX_fld (bx := bx) (X := X) (L := L) (i := j) (by omega) hk, plX_fld (bx := bx) (X := X) (L := L) (i := m) (by omega) hk⟩ : _ ∧ _))
          have HST := Lib.hid hstop; have HSW := Lib.hid hswap; have HL := Lib.hid hlen
          clear hstop hswap hlen hJ hmem
          have hmI : (j : Int) - 1 = (m : Int) := by omega
          have hm0 : 0 < j := by omega
          have hjrI : (j : Int) < (r : Int) := by omega
          have hmrI : (m : Int) < (r : Int) := by omega
          have hwm : wrap64 (m : Int) = (m : Int) := by unfold wrap64; omega
          have HM := Lib.hid hm; clear hm
          generalize L.getD j 0 = a at *
          generalize L.getD m 0 = b at *
          have HCP := Lib.hid (fun (w : World) hK => HFW2.out a b w hK)
          have HWK := Lib.hid (show IntKind.i64.wrap (m : Int) = (m : Int) by simp [IntKind.wrap, IntKind.bits, IntKind.signed]; omega)
          by_cases hab : f a < f b
          · rw [(HZ.out a b).1 hab] at HCP
            have HCL := Lib.hid (fun (d : Nat) (os : Array Obj) => Calls.regrown_of (HCP.out (Sort.grow (redrawn wr d) os) (hKr.below (below_regrown wr d os))))
            have HRX := Lib.hid (range_regrown (HRA.out _ hH))
            have HRY := Lib.hid (range_regrown (HRB.out _ hH))
            go_wp2
            refine wp_region_quiet_below (by kernel_rfl) (by kernel_rfl) ?_
            repeat (first | go_big_quiet_step (fail))
            refine wpQuiet_load_mid (by rfl) 126 _ rfl g (j * 5) (by rfl) (pl1 bx a).toList (pl1 bx a) rfl _ HRX.out Try.underlying126 rfl Try.sizePl ?_
            go_simp
            repeat (first | go_big_quiet_step (fail))
            refine wpQuiet_load_mid (by rfl) 126 _ rfl g (m * 5) (by rfl) (pl1 bx b).toList (pl1 bx b) rfl _ HRY.out Try.underlying126 rfl Try.sizePl ?_
            go_simp
            repeat (first | go_big_quiet_step (with_reducible exact HCL.out _ _) | quiet_step (with_reducible exact HCL.out _ _))
            refine wpQuiet_nil ?_
            intro r7
            have hb7 := below_regrown wr r7.d r7.os
            generalize Sort.grow (redrawn wr r7.d) r7.os = W7 at *
            have hH7 := hH.below hb7
            have hG7 := grownBy_trans hG (grownBy_of_below hb7 _)
            have hK7 := hKr.below hb7
            clear HRX HRY HCL hH hG hKr hb7
            have HSJ := Lib.hid (HSW.out hab)
            clear hab HST HSW HCP
            go_wp2
            have k0 := HCE.out 0 (by omega); have k1 := HCE.out 1 (by omega); have k2 := HCE.out 2 (by omega); have k3 := HCE.out 3 (by omega); have k4 := HCE.out 4 (by omega)
            have kA0 := (hH7.cell (j * 5)).trans k0.1
            have kA1 := (hH7.cell (j * 5 + 1)).trans k1.1
            have kA2 := (hH7.cell (j * 5 + 2)).trans k2.1
            have kA3 := (hH7.cell (j * 5 + 3)).trans k3.1
            have kA4 := (hH7.cell (j * 5 + 4)).trans k4.1
            have kB0 := (hH7.cell (m * 5)).trans k0.2
            have kB1 := (hH7.cell (m * 5 + 1)).trans k1.2
            have kB2 := (hH7.cell (m * 5 + 2)).trans k2.2
            have kB3 := (hH7.cell (m * 5 + 3)).trans k3.2
            have kB4 := (hH7.cell (m * 5 + 4)).trans k4.2
            have fA0 := hH7.frozen (j * 5); have fA1 := hH7.frozen (j * 5 + 1); have fA2 := hH7.frozen (j * 5 + 2); have fA3 := hH7.frozen (j * 5 + 3); have fA4 := hH7.frozen (j * 5 + 4)
            have fB0 := hH7.frozen (m * 5); have fB1 := hH7.frozen (m * 5 + 1); have fB2 := hH7.frozen (m * 5 + 2); have fB3 := hH7.frozen (m * 5 + 3); have fB4 := hH7.frozen (m * 5 + 4)
            have q1 := (HPU.out W7 L HL.out hH7).1 b
            have q2 := (HPU.out _ (L.set j b) (by rw [List.length_set]; exact HL.out) q1).2 a
            have hGa := grownBy_trans (pl_grown W7 g j bx b) (pl_grown _ g m bx a)
            have hG8 := grownBy_trans hG7 hGa
            have hK8 := hK7.kept hGa (by simp only [ne_eq, Option.some.injEq]; exact hBg)
            have Q2 := Lib.hid q2; have G8 := Lib.hid hG8; have K8 := Lib.hid hK8
            clear q1 q2 hG8 hH7 hG7 hK7 hK8 hGa k0 k1 k2 k3 k4
            unfold fldP at kA0 kA1 kA2 kA3 kA4 kB0 kB1 kB2 kB3 kB4
            simp only at kA0 kA1 kA2 kA3 kA4 kB0 kB1 kB2 kB3 kB4
            go_region
            go_wp2
            go_roundw
            case rel => exact ⟨m, swapAt L j, by go_num, by rw [HSE.out]; exact Q2.out.drew, HSJ.out, grownBy_trans G8.out (grownBy_of_below (below_drewN _ _ 1) _), K8.out.drew⟩
            case measure => have := HM.out; simp [intOf]; omega
          · obtain ⟨zk, hzk⟩ := (HZ.out a b).2 hab
            rw [hzk] at HCP
            have hz0 : ¬ ((zk : Int) < 0) := by omega
            have HSO := Lib.hid (HST.out hab)
            clear hab HST HSW hzk
            have HCL := Lib.hid (fun (d : Nat) (os : Array Obj) => Calls.regrown_of (HCP.out (Sort.grow (redrawn wr d) os) (hKr.below (below_regrown wr d os))))
            have HRX := Lib.hid (range_regrown (HRA.out _ hH))
            have HRY := Lib.hid (range_regrown (HRB.out _ hH))
            go_wp2
            refine wp_region_quiet_below (by kernel_rfl) (by kernel_rfl) ?_
            repeat (first | go_big_quiet_step (fail))
            refine wpQuiet_load_mid (by rfl) 126 _ rfl g (j * 5) (by rfl) (pl1 bx a).toList (pl1 bx a) rfl _ HRX.out Try.underlying126 rfl Try.sizePl ?_
            go_simp
            repeat (first | go_big_quiet_step (fail))
            refine wpQuiet_load_mid (by rfl) 126 _ rfl g (m * 5) (by rfl) (pl1 bx b).toList (pl1 bx b) rfl _ HRY.out Try.underlying126 rfl Try.sizePl ?_
            go_simp
            repeat (first | go_big_quiet_step (with_reducible exact HCL.out _ _) | quiet_step (with_reducible exact HCL.out _ _))
            refine wpQuiet_nil ?_
            intro r7
            have hb7 := below_regrown wr r7.d r7.os
            generalize Sort.grow (redrawn wr r7.d) r7.os = W7 at *
            have hH7 := hH.below hb7
            have hG7 := grownBy_trans hG (grownBy_of_below hb7 _)
            have hK7 := hKr.below hb7
            clear HRX HRY HCL hH hG hKr hb7
            go_wp2
            go_roundw
            case rel => exact ⟨i + 1, L, by go_num, by omega, hH7, HSO.out, hG7, hK7⟩
            case measure => simp [intOf]; omega
        · obtain rfl : j = 0 := by omega
          have HI := Lib.hid (hJ.stopAny HF2.out (by rw [HLL.out]; exact hir) (fun m hm => by cases hm))
          clear hJ hlen hmem
          go_wp2
          refine wp_region_quiet_below (by kernel_rfl) (by kernel_rfl) ?_
          repeat (first | go_big_quiet_step (fail))
          refine wpQuiet_nil ?_
          rintro _ ⟨r7, rfl⟩
          have hb7 := below_regrown wr r7.d r7.os
          generalize Sort.grow (redrawn wr r7.d) r7.os = W7 at *
          have hH7 := hH.below hb7
          have hG7 := grownBy_trans hG (grownBy_of_below hb7 _)
          have hK7 := hKr.below hb7
          clear hH hG hKr hb7
          go_wp2
          go_roundw
          case rel => exact ⟨i + 1, L, by go_num, by omega, hH7, HI.out, hG7, hK7⟩
          case measure => simp [intOf]; omega
    · have hD := hI.done (by rw [HLL.out]; omega)
      clear hI
      subst hD
      go_wp2
      exact bodyPost_end (v := .tuple #[]) (by simp [results, Try.results142, go_sem]) rfl ⟨rfl, hH, hG⟩

end Go.Proofs.Ytpgcpmfemcfoaaa

/-
  Parts of plans: both parts that a cut leaves. (Walks.)
-/
namespace Go.Proofs.Ytpgcpmfemcfoaaa
open Go.RowKit

set_option maxRecDepth 100000 in
set_option maxHeartbeats 4000000 in
theorem stableP_any (c : Nat × Nat) (bx : Nat → Bx) (B : Nat) (X : Array Value) (r g cap : Nat) (L0 : List Nat) (w : World) (hr : r ≤ 9) (h1 : c.1 < 2) (h2 : c.2 < 6) (hl : L0.length = r) (hf : ∀ x ∈ L0, sideN c (bx x) = 0 ∨ sideN c (bx x) = 2) (hBg : B ≠ g)
    (hK : HeldB w B 132 (ctC c)) (hB : HeldB w g 126 (plX bx X L0)) :
    Calls Try.prog 134 #[.slice (some ⟨g, 0, none⟩) r cap, .int .i64 (r : Int), .func (.func 111) #[] #[.pointer (some ⟨B, 0, none⟩)]] w
      fun e w' => e = .returned (.tuple #[]) ∧ HeldB w' g 126 (plX bx X (twoS (fun a => sideN c (bx a)) L0)) ∧ w.grownBy w' (some g) := by
  have HI := Lib.hid (insertionP_any c bx B X r g cap L0 w hr h1 h2 hl hf hBg hK hB)
  have hr1 : ¬ (20 : Int) ≤ (r : Int) := by omega
  have hr2 : ¬ (20 : Int) < (r : Int) := by omega
  clear hf hl hK hB
  go_enter Try.func134, Try.ntmps134
  go_wp2
  refine wp_loop_rounds 1 ?_
  rw [rounds_succ]
  go_wp2_with fail
  refine HI.out.mono ?_
  rintro e w1 ⟨rfl, hH, hG⟩
  go_wp2
  refine wp_loop_rounds 1 ?_
  rw [rounds_succ]
  go_wp2
  exact bodyPost_end (v := .tuple #[]) (by simp [results, Try.results134, go_sem]) rfl ⟨rfl, hH, hG⟩
set_option maxRecDepth 100000 in
theorem sortStableP_any (c : Nat × Nat) (bx : Nat → Bx) (B : Nat) (X : Array Value) (r g cap : Nat) (L0 : List Nat) (w : World) (hr : r ≤ 9) (h1 : c.1 < 2) (h2 : c.2 < 6) (hl : L0.length = r) (hf : ∀ x ∈ L0, sideN c (bx x) = 0 ∨ sideN c (bx x) = 2) (hBg : B ≠ g)
    (hK : HeldB w B 132 (ctC c)) (hB : HeldB w g 126 (plX bx X L0)) :
    Calls Try.prog 110 #[.slice (some ⟨g, 0, none⟩) r cap, .func (.func 111) #[] #[.pointer (some ⟨B, 0, none⟩)]] w
      fun e w' => e = .returned (.tuple #[]) ∧ HeldB w' g 126 (plX bx X (twoS (fun a => sideN c (bx a)) L0)) ∧ w.grownBy w' (some g) := by
  have HI := Lib.hid (stableP_any c bx B X r g cap L0 w hr h1 h2 hl hf hBg hK hB)
  clear hf hl hK hB
  go_enter Try.func110, Try.ntmps110
  go_wp2_with (go_at_call 134; refine HI.out.mono ?_; rintro e w1 ⟨rfl, hH, hG⟩)
  go_end0
  exact ⟨rfl, hH, hG⟩

theorem runR_copy {P : Program} (w : World) (dT sT ty elem : TypeId) (size g o dLen dCap m : Nat) (a : Addr) (sLen sCap : Nat) (cur : Array Value) (t : TypeId) (cs : List Value)
    (hu : P.underlying dT = some (.slice elem)) (hs : (P.info? elem).map (·.size) = some size)
    (hg : w.heap[g]? = some (.cells cur t (0, 0))) (hm : m = Nat.min sLen dLen) (hn : cs.length = m * size)
    (hsrc : ∀ j v, cs[j]? = some v → w.cell? (a.add j) = some v) (hfit : o + cs.length ≤ cur.size) (h1 : ∀ v ∈ cs, v.oneCell' = true) :
    (Builtin.copy_ #[dT, sT] ty #[.slice (some ⟨g, o, none⟩) dLen dCap, .slice (some a) sLen sCap]).run P w =
      .ok (goInt m) (w.setRow g (cur.toList.take o ++ cs ++ cur.toList.drop (o + cs.length)).toArray) := by
  have hl := run_loadCells_list (P := P) w a cs hsrc
  have hst := run_storeCells_at P g o t cs 0 cur w hg (by simpa using hfit) h1
  cases hq : P.info? elem with
  | none => simp [hq] at hs
  | some i =>
    have hi : i.size = size := by simpa [hq] using hs
    simp [Builtin.copy_, run_underlying hu, Builtin.lenOf, Builtin.firstCells, sizeOf, typeInfo, hq, hi, ← hn, ← hm, hl, hst]
theorem wpListR_copy {P : Program} (w : World) {ops : Array Oper} {rest : List Oper} {o : Oper} {a : Act} {Q : Exit → Act → World → Prop} (hgd : o.guard = none) (d s : Operand) (t t' : TypeId)
    (ho : o.op = .call { callee := .builtin .copy, args := #[d, s], argTypes := #[t, t'] }) (v u : Value) (hd : a.eval d = v) (hs : a.eval s = u) {v' : Value} {w' : World}
    (hr : (Builtin.copy_ #[t, t'] o.type #[v, u]).run P w = .ok v' w') (h : wpList P ops Q rest (a.put o.dst v') w') : wpList P ops Q (o :: rest) a w := by
  refine wpList_plain hgd fun K hK' => ?_
  unfold Oper.wp execOp
  simp only [ho, resolve, invoke, builtin, Sem.run_bind, Sem.run_pure, Result.andThen_ok, List.map_toArray, List.map_cons, List.map_nil, hd, hs, hr]
  exact hK' _ _ h
/-- the places of a list, copied into a new row -/
theorem copyP_run {W : World} {g n cap : Nat} {po : Option Addr} {bx : Nat → Bx} {L : List Nat} {xs : List Value} (hL : L.length = n) (hn : 1 ≤ n) (h : W.ownsRow g 126 5 (.slice (some ⟨g, 0, none⟩) n n) n xs) (hc : CellsAt W po (plL bx L)) (ty : TypeId) :
    ∃ a X, po = some a ∧ (Builtin.copy_ #[74, 74] ty #[.slice (some ⟨g, 0, none⟩) n n, .slice po n cap]).run Try.prog W = .ok (goInt n) (W.setRow g (plX bx X L)) ∧ HeldB (W.setRow g (plX bx X L)) g 126 (plX bx X L) := by
  rcases h.2 with ⟨hv, h0⟩ | ⟨g', cap', cur, hv, hb, hg, h1, h2, h3, h4⟩
  · cases hv
  · simp only [Value.slice.injEq, Option.some.injEq, Addr.mk.injEq, and_true, true_and] at hv
    obtain ⟨rfl, rfl⟩ := hv
    obtain ⟨b, o, rfl, -⟩ := hc 0 _ (plL_at (bx := bx) (L := L) (k := 0) (by omega))
    have hsz : (plL bx L).length = n * 5 := by rw [plL_len, hL]; omega
    have hr := runR_copy (P := Try.prog) W 74 74 ty 126 5 g 0 n n n ⟨b, o, none⟩ n cap cur 126 (plL bx L) Try.underlying74 (by rw [Try.sizePl]) hg (by simp) hsz (fun j v hj => by
      obtain ⟨b', o', he, hcc⟩ := hc j v hj
      cases he
      rw [Addr.add_lit]; exact hcc) (by rw [hsz, Nat.zero_add, h3]; exact Nat.le_refl _) (pl_ones bx L)
    have he : (cur.toList.take 0 ++ plL bx L ++ cur.toList.drop (0 + (plL bx L).length)).toArray = plX bx (cur.toList.drop (n * 5)).toArray L := by
      unfold plX
      rw [List.take_zero, List.nil_append, hsz, Nat.zero_add]; simp
    rw [he] at hr
    exact ⟨_, _, rfl, hr, HeldB.setRow (show HeldB W g 126 cur from hg) _⟩

theorem range_box {W : World} {g o : Nat} {bx : Nat → Bx} {a : Nat} (h : W.rangeAt g o (pl1 bx a).toList) : W.rangeAt g (o + 1) (bxC (bx a)).toList := fun j v hv => by
  have hj : j < 4 := by have := (List.getElem?_eq_some_iff.1 hv).1; simpa [bxC] using this
  rw [Nat.add_assoc]
  refine h (1 + j) v ?_
  rw [← hv]
  rcases (show j = 0 ∨ j = 1 ∨ j = 2 ∨ j = 3 by omega) with rfl | rfl | rfl | rfl <;> rfl
theorem plX_more {W : World} {g : Nat} {t : TypeId} {bx : Nat → Bx} {X : Array Value} {A B : List Nat} (h : HeldB W g t (plX bx X (A ++ B))) : CellsAt W (some ⟨g, A.length * 5, none⟩) (plL bx B) := fun i u hu => by
  refine ⟨g, A.length * 5, rfl, ?_⟩
  have hi : i < 5 * B.length := by rw [← plL_len bx B]; exact (List.getElem?_eq_some_iff.1 hu).1
  rw [h.cell, plX_at (by rw [List.length_append]; omega), ← hu, plL_at hi, show (A.length * 5 + i) / 5 = A.length + i / 5 by omega, show (A.length * 5 + i) % 5 = i % 5 by omega]
  rw [show (A ++ B).getD (A.length + i / 5) 0 = B.getD (i / 5) 0 by rw [List.getD_eq_getElem?_getD, List.getD_eq_getElem?_getD, List.getElem?_append_right (by omega), Nat.add_sub_cancel_left]]
theorem plX_less {W : World} {g : Nat} {t : TypeId} {bx : Nat → Bx} {X : Array Value} {A B : List Nat} (h : HeldB W g t (plX bx X (A ++ B))) : CellsAt W (some ⟨g, 0, none⟩) (plL bx A) := fun i u hu => by
  refine ⟨g, 0, rfl, ?_⟩
  have hi : i < 5 * A.length := by rw [← plL_len bx A]; exact (List.getElem?_eq_some_iff.1 hu).1
  rw [Nat.zero_add, h.cell, plX_at (by rw [List.length_append]; omega), ← hu, plL_at hi]
  rw [show (A ++ B).getD (i / 5) 0 = A.getD (i / 5) 0 by rw [List.getD_eq_getElem?_getD, List.getD_eq_getElem?_getD, List.getElem?_append_left (by omega)]]

set_option maxRecDepth 100000 in
set_option maxHeartbeats 8000000 in
theorem apart_any (c : Nat × Nat) (bx : Nat → Bx) (n : Nat) (L : List Nat) (po : Option Addr) (cap : Nat) (w : World) (hr : n ≤ 9) (h1 : c.1 < 2) (h2 : c.2 < 6) (hl : L.length = n) (hf : ∀ x ∈ L, sideN c (bx x) = 0 ∨ sideN c (bx x) = 2)
    (hA1 : 1 ≤ (L.filter fun a => decide (sideN c (bx a) = 0)).length) (hB1 : 1 ≤ (L.filter fun a => decide (sideN c (bx a) = 2)).length) (hc : CellsAt w po (plL bx L)) :
    Calls Try.prog 84 #[.slice po n cap, .agg (ctC c)] w
      fun e w' => ∃ g, e = .returned (.tuple #[.slice (some ⟨g, 0, none⟩) (L.filter fun a => decide (sideN c (bx a) = 0)).length (L.filter fun a => decide (sideN c (bx a) = 0)).length, .slice (some ⟨g, (L.filter fun a => decide (sideN c (bx a) = 0)).length * 5, none⟩) (L.filter fun a => decide (sideN c (bx a) = 2)).length (L.filter fun a => decide (sideN c (bx a) = 2)).length]) ∧
        CellsAt w' (some ⟨g, 0, none⟩) (plL bx (L.filter fun a => decide (sideN c (bx a) = 0))) ∧ CellsAt w' (some ⟨g, (L.filter fun a => decide (sideN c (bx a) = 0)).length * 5, none⟩) (plL bx (L.filter fun a => decide (sideN c (bx a) = 2))) ∧ Below w.heap.size w w' := by
  have HSO := Lib.hid (fun (B : Nat) (X : Array Value) (g cap : Nat) (w : World) hBg hK hB => sortStableP_any c bx B X n g cap L w hr h1 h2 hl hf hBg hK hB)
  have htw : twoS (fun a => sideN c (bx a)) L = (L.filter fun a => decide (sideN c (bx a) = 0)) ++ (L.filter fun a => decide (sideN c (bx a) = 2)) := rfl
  have hlen : (L.filter fun a => decide (sideN c (bx a) = 0)).length + (L.filter fun a => decide (sideN c (bx a) = 2)).length = n := by rw [← hl]; exact filter_two _ _ hf
  rw [htw] at HSO
  have HSD := Lib.hid (fun (x : Bx) (w : World) => side_any c x w h1 h2)
  have HA := Lib.hid (show ∀ x ∈ (L.filter fun a => decide (sideN c (bx a) = 0)), sideI c (bx x) = -1 from fun x hx => by
    rw [List.mem_filter, decide_eq_true_eq] at hx; unfold sideI; rw [hx.2]; rfl)
  have HB := Lib.hid (show ∀ x ∈ (L.filter fun a => decide (sideN c (bx a) = 2)), sideI c (bx x) = 1 from fun x hx => by
    rw [List.mem_filter, decide_eq_true_eq] at hx; unfold sideI; rw [hx.2]; rfl)
  have HCP := Lib.hid (fun (W : World) (g cap : Nat) (xs : List Value) (h : W.ownsRow g 126 5 (.slice (some ⟨g, 0, none⟩) n n) n xs) (hc : CellsAt W po (plL bx L)) (ty : TypeId) => copyP_run (cap := cap) hl (by omega) h hc ty)
  generalize (L.filter fun a => decide (sideN c (bx a) = 0)) = A at *
  generalize (L.filter fun a => decide (sideN c (bx a) = 2)) = B at *
  have HCT := Lib.hid (show (Try.prog.info? 132).map (·.size) = some (ctC c).toList.length by rw [Try.sizeCt]; rfl)
  obtain ⟨ip, hpi, hpz, hp1, hp2⟩ := info_parts Try.infoPl
  have bC := HeldB.new w 132 (ctC c)
  have hb0 := below_alloc w (.cells (ctC c) 132)
  generalize hCC : ctC c = CC at *
  have hc0 := hc.below hb0
  have hn1 : 1 ≤ n := by omega
  have HLE := Lib.hid hlen; have HL := Lib.hid hl
  clear hc htw hf hl hlen h1 h2
  go_enter Try.func84, Try.ntmps84
  go_wp2_with (first
    | (at_make; refine wpList_make_full _ rfl _ _ 74 rfl (w.heap.size + 1) 126 ip (.agg #[.int .i64 0, .int .i64 0, .int .i64 0, .int .i64 0, .int .i64 0]) 5 Try.underlying74 hpi hpz hp1 .i64 .i64 _ _ n rfl rfl rfl rfl ?d2 ?d3 (by simp) ?_; rotate_left 2; intro w2 ho2 hg2; simp only [World.size_alloc] at ho2; obtain ⟨pa, X, rfl, hrun, hH⟩ := HCP.out w2 (w.heap.size + 1) cap _ (ownsRow_base ho2 (Nat.le_refl _)) (hc0.below (below_of_grownBy hg2 (Nat.le_refl _) (by simp))) 3)
    | (refine wpListR_copy _ rfl _ _ 74 74 rfl _ _ rfl rfl hrun ?_))
  case d2 => rw [hp2]; omega
  case d3 => unfold maxLen; omega
  have bC2 := (bC.kept hg2 (by simp)).otherRow (B' := w.heap.size + 1) (by omega) (plX bx X L)
  have hb2 := hb0.trans ((below_of_grownBy hg2 (Nat.le_refl _) (by simp)).mono (by simp))
  have hb3 : Below w.heap.size w (w2.setRow (w.heap.size + 1) (plX bx X L)) := below_setRowB hb2 (by omega) _
  clear ho2 hrun hg2 bC hb0 hc0 HCP hb2
  generalize w2.setRow (w.heap.size + 1) (plX bx X L) = w3 at *
  go_wp2_with fail
  refine (HSO.out w.heap.size X (w.heap.size + 1) n w3 (by omega) bC2 hH).mono ?_
  rintro e w4 ⟨rfl, hH4, hg4⟩
  have bC4 := bC2.kept hg4 (by simp)
  have hb4 : Below w.heap.size w w4 := hb3.trans (below_of_grownBy hg4 hb3.size (fun k hk => by simp at hk; omega))
  have hgs : w.heap.size + 1 < w4.heap.size := hH4.lt
  clear HSO bC2 hH hg4 hb3
  have HAL := Lib.hid (show ∀ m, m < A.length → sideI c (bx ((A ++ B).getD m 0)) = -1 from fun m hm => by
    rw [show (A ++ B).getD m 0 = A.getD m 0 by rw [List.getD_eq_getElem?_getD, List.getD_eq_getElem?_getD, List.getElem?_append_left hm]]
    exact HA.out _ (getD_mem 0 hm))
  have HBL := Lib.hid (show sideI c (bx ((A ++ B).getD A.length 0)) = 1 from by
    rw [show (A ++ B).getD A.length 0 = B.getD 0 0 by rw [List.getD_eq_getElem?_getD, List.getD_eq_getElem?_getD, List.getElem?_append_right (by omega), Nat.sub_self]]
    exact HB.out _ (getD_mem 0 (by omega)))
  have hAB : A.length < n := by have := HLE.out; omega
  have HNL := Lib.hid (show (A ++ B).length = n by rw [List.length_append]; exact HLE.out)
  clear HA HB
  go_wp2
  go_loopw [7] (fun vk wr => ∃ (m : Nat), vk = .int .i64 (m : Int) ∧ m ≤ A.length ∧ HeldB wr (w.heap.size + 1) 126 (plX bx X (A ++ B)) ∧ HeldB wr w.heap.size 132 CC ∧ Below w.heap.size w wr) (fun vk _ => A.length + 1 - (intOf vk).toNat)
  case atStart => exact ⟨0, rfl, Nat.zero_le _, hH4, bC4, hb4⟩
  case round =>
    clear hH4 bC4 hb4 hgs
    obtain ⟨m, rfl, hm, hHr, bCr, hbr⟩ := hrel
    have hmnI : (m : Int) < (n : Int) := by omega
    have hrx := range_box (pl_range (i := m) hHr (by rw [HNL.out]; omega))
    have HSX := Lib.hid (fun (w : World) => HSD.out (bx ((A ++ B).getD m 0)) w)
    have HXA := Lib.hid (show (Try.prog.info? 100).map (·.size) = some (bxC (bx ((A ++ B).getD m 0))).toList.length by rw [Try.sizeBx]; rfl)
    by_cases hma : m < A.length
    · rw [HAL.out m hma] at HSX
      generalize bxC (bx ((A ++ B).getD m 0)) = XA at *
      have HCL := Lib.hid (fun (d : Nat) (os : Array Obj) => Calls.regrown_of (HSX.out (Sort.grow (redrawn wr d) os)))
      have HRX := Lib.hid (range_regrown hrx)
      have HRC := Lib.hid (range_regrown bCr.range)
      clear hrx HSX
      go_wp2
      refine wp_region_quiet_below (by kernel_rfl) (by kernel_rfl) ?_
      repeat (first | go_big_quiet_step (fail))
      refine wpQuiet_load_mid (by rfl) 132 _ rfl w.heap.size 0 (by rfl) CC.toList CC rfl _ HRC.out Try.underlying132 rfl HCT.out ?_
      go_simp
      repeat (first | go_big_quiet_step (fail))
      refine wpQuiet_load_mid (by rfl) 100 _ rfl (w.heap.size + 1) (m * 5 + 1) (by rfl) XA.toList XA rfl _ HRX.out Try.underlying100 rfl HXA.out ?_
      go_simp
      repeat (first | go_big_quiet_step (with_reducible exact HCL.out _ _) | quiet_step (with_reducible exact HCL.out _ _))
      refine wpQuiet_nil ?_
      intro r7
      have hb7 := below_regrown wr r7.d r7.os
      generalize Sort.grow (redrawn wr r7.d) r7.os = W7 at *
      have hH7 := hHr.below hb7
      have bC7 := bCr.below hb7
      have hB7 := hbr.trans (hb7.mono hbr.size)
      clear HRX HCL HRC hHr bCr hbr hb7
      go_wp2
      go_roundw
      case rel => exact ⟨m + 1, by go_num, by omega, hH7, bC7, hB7⟩
      case measure => simp [intOf]; omega
    · obtain rfl : m = A.length := by omega
      rw [HBL.out] at HSX
      generalize bxC (bx ((A ++ B).getD A.length 0)) = XA at *
      have HCL := Lib.hid (fun (d : Nat) (os : Array Obj) => Calls.regrown_of (HSX.out (Sort.grow (redrawn wr d) os)))
      have HRX := Lib.hid (range_regrown hrx)
      have HRC := Lib.hid (range_regrown bCr.range)
      clear hrx HSX
      go_wp2
      refine wp_region_quiet_below (by kernel_rfl) (by kernel_rfl) ?_
      repeat (first | go_big_quiet_step (fail))
      refine wpQuiet_load_mid (by rfl) 132 _ rfl w.heap.size 0 (by rfl) CC.toList CC rfl _ HRC.out Try.underlying132 rfl HCT.out ?_
      go_simp
      repeat (first | go_big_quiet_step (fail))
      refine wpQuiet_load_mid (by rfl) 100 _ rfl (w.heap.size + 1) (A.length * 5 + 1) (by rfl) XA.toList XA rfl _ HRX.out Try.underlying100 rfl HXA.out ?_
      go_simp
      repeat (first | go_big_quiet_step (with_reducible exact HCL.out _ _) | quiet_step (with_reducible exact HCL.out _ _))
      refine wpQuiet_nil ?_
      intro r7
      have hb7 := below_regrown wr r7.d r7.os
      generalize Sort.grow (redrawn wr r7.d) r7.os = W7 at *
      have hH7 := hHr.below hb7
      have bC7 := bCr.below hb7
      have hB7 := hbr.trans (hb7.mono hbr.size)
      clear HRX HCL HRC hHr bCr hbr hb7
      go_wp2
      go_quiet (fail)
      go_wp2
      go_ret2
      have hbn : n - A.length = B.length := by have := HLE.out; omega
      refine ⟨w.heap.size + 1, by rw [hbn]; rfl, (plX_less hH7).below (below_drewN _ _ _), (plX_more hH7).below (below_drewN _ _ _), hB7.trans (below_drewN _ _ _)⟩

end Go.Proofs.Ytpgcpmfemcfoaaa

/-
  Parts of plans: their cuts. (Walks.)
-/
namespace Go.Proofs.Ytpgcpmfemcfoaaa
open Go.RowKit

def cntF (f : Nat → Nat) (v : Nat) (l : List Nat) : Nat := (l.filter fun a => decide (f a = v)).length
theorem cntF_le (f : Nat → Nat) (v : Nat) (l : List Nat) : cntF f v l ≤ l.length := List.length_filter_le _ _
theorem cntF_step {f : Nat → Nat} {v : Nat} {l : List Nat} {i : Nat} (hi : i < l.length) : cntF f v (l.take (i + 1)) = cntF f v (l.take i) + if f (l.getD i 0) = v then 1 else 0 := by
  unfold cntF
  rw [take_succ_getD l i 0 hi, List.filter_append, List.length_append]
  generalize l.getD i 0 = a
  by_cases h : f a = v
  · rw [if_pos h]; simp [h]
  · rw [if_neg h]; simp [h]
/-- is a line a cut of a list of rooms -/
def okC (bx : Nat → Bx) (L : List Nat) (c : Nat × Nat) : Bool := (L.all fun a => decide (sideN c (bx a) ≠ 1)) && (decide (0 < cntF (fun a => sideN c (bx a)) 0 L) && decide (0 < cntF (fun a => sideN c (bx a)) 2 L))
theorem okC_no {bx : Nat → Bx} {L : List Nat} {c : Nat × Nat} {i : Nat} (hi : i < L.length) (h : sideN c (bx (L.getD i 0)) = 1) : okC bx L c = false := by
  unfold okC
  rw [show (L.all fun a => decide (sideN c (bx a) ≠ 1)) = false by
    rw [List.all_eq_false]; exact ⟨_, getD_mem 0 hi, by rw [h]; decide⟩, Bool.false_and]
theorem okC_is {bx : Nat → Bx} {L : List Nat} {c : Nat × Nat} (h : ∀ j, j < L.length → sideN c (bx (L.getD j 0)) ≠ 1) : okC bx L c = (decide (0 < cntF (fun a => sideN c (bx a)) 0 L) && decide (0 < cntF (fun a => sideN c (bx a)) 2 L)) := by
  unfold okC
  rw [show (L.all fun a => decide (sideN c (bx a) ≠ 1)) = true by
    rw [List.all_eq_true]
    intro a ha
    obtain ⟨j, hj, rfl⟩ := List.mem_iff_getElem.1 ha
    have := h j hj
    rw [show L.getD j 0 = L[j] by simp [hj]] at this
    simpa using this, Bool.true_and]
def ctL (K : List (Nat × Nat)) : List Value := K.flatMap fun c => (ctC c).toList
theorem ctL_snoc (K : List (Nat × Nat)) (c : Nat × Nat) : ctL (K ++ [c]) = ctL K ++ (ctC c).toList := by simp [ctL]
def linesK (bx : Nat → Bx) (L : List Nat) (t l : Nat) : List (Nat × Nat) := (linesC.take (5 * t + (l - 1))).filter (okC bx L)
theorem linesC_at {t l : Nat} (ht : t < 2) (h1 : 1 ≤ l) (h6 : l < 6) : linesC.take (5 * t + l) = linesC.take (5 * t + (l - 1)) ++ [(t, l)] := by
  have h : ∀ t, t < 2 → ∀ l, l < 6 → 1 ≤ l → linesC.take (5 * t + l) = linesC.take (5 * t + (l - 1)) ++ [(t, l)] := by decide
  exact h t ht l h6 h1
theorem linesK_yes {bx : Nat → Bx} {L : List Nat} {t l : Nat} (ht : t < 2) (h1 : 1 ≤ l) (h6 : l < 6) (h : okC bx L (t, l) = true) : linesK bx L t (l + 1) = linesK bx L t l ++ [(t, l)] := by
  unfold linesK
  rw [Nat.add_sub_cancel, linesC_at ht h1 h6, List.filter_append]; simp [h]
theorem linesK_no {bx : Nat → Bx} {L : List Nat} {t l : Nat} (ht : t < 2) (h1 : 1 ≤ l) (h6 : l < 6) (h : okC bx L (t, l) = false) : linesK bx L t (l + 1) = linesK bx L t l := by
  unfold linesK
  rw [Nat.add_sub_cancel, linesC_at ht h1 h6, List.filter_append]; simp [h]
theorem linesK_next (bx : Nat → Bx) (L : List Nat) (t : Nat) : linesK bx L t 6 = linesK bx L (t + 1) 1 := by unfold linesK; rw [show 5 * t + (6 - 1) = 5 * (t + 1) + (1 - 1) by omega]
theorem linesK_all (bx : Nat → Bx) (L : List Nat) : linesK bx L 2 1 = linesC.filter (okC bx L) := rfl
theorem linesK_len (bx : Nat → Bx) (L : List Nat) (t l : Nat) : (linesK bx L t l).length ≤ 10 := Nat.le_trans (List.length_filter_le _ _) (by rw [List.length_take]; exact Nat.min_le_right _ _)
theorem Try.infoCt : (Try.prog.info? 132).map (fun i => (i.zero, i.size, i.bytes)) = some (some (.agg #[.int .i64 0, .int .i64 0]), 2, 16) := by kernel_rfl
theorem ct_ones (c : Nat × Nat) : ∀ v ∈ (ctC c).toList, v.oneCell' = true := fun v hv => by
  simp only [ctC, List.mem_cons, List.not_mem_nil, or_false] at hv
  rcases hv with rfl | rfl <;> rfl
/-- the state of the loop over lines -/
def CtSt (w : World) (K : List (Nat × Nat)) (ro : Option Addr) (rc : Nat) (wr : World) : Prop :=
  wr.ownsRow (w.heap.size + 1) 132 2 (.slice ro K.length rc) K.length (ctL K) ∧ HeldB wr w.heap.size 3 #[.int .i64 0, .int .i64 1] ∧ Below w.heap.size w wr
theorem CtSt.below {w : World} {K : List (Nat × Nat)} {ro : Option Addr} {rc : Nat} {wr w1 : World} (h : CtSt w K ro rc wr) (hb : Below wr.heap.size wr w1) : CtSt w K ro rc w1 :=
  ⟨ownsRow_below h.1 hb, h.2.1.below hb, below_step h.2.2 h.2.2.size hb⟩

set_option maxRecDepth 100000 in
set_option maxHeartbeats 8000000 in
theorem cuts_any (bx : Nat → Bx) (L : List Nat) (n : Nat) (po : Option Addr) (cap : Nat) (w : World) (hl : L.length = n) (hn : n ≤ 9) (hn1 : 1 ≤ n) (hc : CellsAt w po (plL bx L)) :
    Calls Try.prog 83 #[.slice po n cap] w
      fun e w' => ∃ ro rc, e = .returned (.slice ro (linesC.filter (okC bx L)).length rc) ∧ CellsAt w' ro (ctL (linesC.filter (okC bx L))) ∧ Below w.heap.size w w' := by
  have HSD := Lib.hid (fun (c : Nat × Nat) (x : Bx) (w : World) (h1 : c.1 < 2) (h2 : c.2 < 6) => side_any c x w h1 h2)
  obtain ⟨ic, hci, hcz, hc1, hc2⟩ := info_parts Try.infoCt
  have HLN := Lib.hid hl
  obtain ⟨pb, poff, rfl, -⟩ := hc 0 _ (plL_at (bx := bx) (L := L) (k := 0) (by omega))
  have HC := Lib.hid hc
  have st0 : CtSt w [] none 0 (w.alloc (.cells #[.int .i64 0, .int .i64 1] 3)) := ⟨⟨rfl, .inl ⟨rfl, rfl⟩⟩, HeldB.new w 3 _, below_alloc _ _⟩
  rw [← linesK_all]
  clear hl hc
  go_enter Try.func83, Try.ntmps83
  go_wp2
  go_loopw [3, 14] (fun vo vt wr => ∃ (t : Nat) (ro : Option Addr) (rc : Nat), t ≤ 2 ∧ vt = .int .i64 (t : Int) ∧ vo = .slice ro (linesK bx L t 1).length rc ∧ CtSt w (linesK bx L t 1) ro rc wr) (fun _ vt _ => 2 - (intOf vt).toNat)
  case atStart => exact ⟨0, none, 0, by omega, rfl, rfl, st0⟩
  case round =>
    clear st0
    obtain ⟨t, ro, rc, ht, rfl, rfl, hst⟩ := hrel
    by_cases ht2 : t < 2
    · have htI : (t : Int) < 2 := by omega
      have ct : wr.cell? ⟨w.heap.size, t, none⟩ = some (.int .i64 (t : Int)) := by
        rcases (show t = 0 ∨ t = 1 by omega) with rfl | rfl
        · exact hst.2.1.cell 0
        · exact hst.2.1.cell 1
      have hK10 := linesK_len bx L t 1
      go_wp2
      go_step3
      go_wp2
      go_step3
      go_wp2
      go_loopw [3, 6] (fun vo vl wr => ∃ (l : Nat) (ro : Option Addr) (rc : Nat), 1 ≤ l ∧ l ≤ 6 ∧ vl = .int .i64 (l : Int) ∧ vo = .slice ro (linesK bx L t l).length rc ∧ CtSt w (linesK bx L t l) ro rc wr) (fun _ vl _ => 6 - (intOf vl).toNat)
      case atStart => exact ⟨1, ro, rc, by omega, by omega, rfl, rfl, hst⟩
      case round =>
        clear hst hK10 ct
        obtain ⟨l, ro, rc, hl1, hl6, rfl, rfl, hst⟩ := hrel
        by_cases hl : l < 6
        · have hlI : (l : Int) < 6 := by omega
          have hst2 := hst.below (below_alloc wr (.cells (ctC (t, l)) 132))
          have bC := HeldB.new wr 132 (ctC (t, l))
          have HNO := Lib.hid (fun h => linesK_no (bx := bx) (L := L) ht2 hl1 hl h)
          have HYE := Lib.hid (fun h => linesK_yes (bx := bx) (L := L) ht2 hl1 hl h)
          have HK10 := Lib.hid (linesK_len bx L t l)
          have HSX := Lib.hid (fun (x : Bx) (w : World) => HSD.out (t, l) x w ht2 hl)
          clear hst
          generalize linesK bx L t l = K at *
          have HF := Lib.hid (fun (i : Nat) (hi : i < L.length) (v : Nat) => cntF_step (f := fun a => sideN (t, l) (bx a)) (v := v) hi)
          have HIN := Lib.hid (fun (i : Nat) (hi : i < L.length) h => okC_no (bx := bx) (L := L) (c := (t, l)) hi h)
          have HOI := Lib.hid (fun h => okC_is (bx := bx) (L := L) (c := (t, l)) h)
          have HCL := Lib.hid (fun (v i : Nat) => cntF_le (fun a => sideN (t, l) (bx a)) v (L.take i))
          rw [HLN.out] at HF HIN HOI
          have HC0 := Lib.hid (fun v => show cntF (fun a => sideN (t, l) (bx a)) v (L.take 0) = 0 from rfl)
          have HCN := Lib.hid (fun v => show cntF (fun a => sideN (t, l) (bx a)) v (L.take n) = cntF (fun a => sideN (t, l) (bx a)) v L by rw [List.take_of_length_le (by rw [HLN.out]; exact Nat.le_refl _)])
          generalize hcn : cntF (fun a => sideN (t, l) (bx a)) = cn at *
          clear hcn
          unfold ctC at hst2 bC
          simp only at hst2 bC
          go_wp2
          generalize wr.heap.size = cB at *
          go_loopw [8, 9, 27] (fun va vb vi wi => ∃ (i : Nat), i ≤ n ∧ vi = .int .i64 (i : Int) ∧ va = .int .i64 ((cn 0 (L.take i) : Nat) : Int) ∧ vb = .int .i64 ((cn 2 (L.take i) : Nat) : Int) ∧ Hid (∀ j, j < i → sideN (t, l) (bx (L.getD j 0)) ≠ 1) ∧ CtSt w K ro rc wi ∧ HeldB wi cB 132 #[.int .i64 (t : Int), .int .i64 (l : Int)]) (fun _ _ vi _ => n - (intOf vi).toNat)
          case atStart => exact ⟨0, Nat.zero_le _, rfl, by rw [HC0.out]; rfl, by rw [HC0.out]; rfl, Lib.hid (fun j hj => absurd hj (Nat.not_lt_zero _)), hst2, bC⟩
          case round =>
            clear hst2 bC
            obtain ⟨i, hi, rfl, rfl, rfl, HJ, hst, bC⟩ := hrel
            have hc0 := HCL.out 0 i
            have hc2' := HCL.out 2 i
            have htk : (L.take i).length ≤ n := by rw [List.length_take, HLN.out]; omega
            by_cases hin : i < n
            · have hinI : (i : Int) < (n : Int) := by omega
              have hrg := pl_cells_range (HC.out.below hst.2.2) (i := i) (by rw [HLN.out]; exact hin)
              have hf0 := HF.out i hin 0
              have hf2 := HF.out i hin 2
              have HI1 := Lib.hid (HIN.out i hin)
              try simp only at hf0
              try simp only at hf2
              generalize ha : L.getD i 0 = a at *
              have HA := Lib.hid ha
              clear ha
              have hst3 := hst.below (below_alloc wr (.cells (pl1 bx a) 126))
              have bC3 := bC.alloc (.cells (pl1 bx a) 126)
              have rC := bC3.range
              have rX := pl_box (HeldB.new wr 126 (pl1 bx a))
              have HSA := Lib.hid (fun w => HSX.out (bx a) w)
              unfold pl1 at hst3 bC3 rC rX
              unfold ctC bxC at HSA
              unfold bxC at rX
              try simp only at HSA
              try simp only at rC
              try simp only at rX
              generalize hx0 : cn 0 (L.take i) = x0 at *
              generalize hx2 : cn 2 (L.take i) = x2 at *
              clear hx0 hx2 hst bC
              rcases (show sideN (t, l) (bx a) = 0 ∨ sideN (t, l) (bx a) = 2 ∨ sideN (t, l) (bx a) = 1 by have := sideN_two (t, l) (bx a); omega) with hs | hs | hs
              · rw [show sideI (t, l) (bx a) = -1 by unfold sideI; rw [hs]; rfl] at HSA
                rw [hs] at hf0 hf2
                have HS := Lib.hid hs
                have HF0 := Lib.hid hf0; have HF2 := Lib.hid hf2
                clear hs hf0 hf2
                go_wp2_with (first
                  | (refine wpList_load_mid rfl 126 _ rfl pb (poff + i * 5) rfl (pl1 bx a).toList _ hrg Try.underlying126 rfl Try.sizePl ?_; simp only [pl1])
                  | (refine wpList_load_mid rfl 132 _ rfl cB 0 rfl [.int .i64 (t : Int), .int .i64 (l : Int)] _ rC Try.underlying132 rfl Try.sizeCt ?_)
                  | (refine wpList_load_mid rfl 100 _ rfl wr.heap.size 1 rfl [.int .i64 ((bx a).row : Int), .int .i64 ((bx a).col : Int), .int .i64 ((bx a).high : Int), .int .i64 ((bx a).wide : Int)] _ rX Try.underlying100 rfl Try.sizeBx ?_)
                  | (go_at_call 109; refine (HSA.out _).mono ?_; rintro e w7 ⟨rfl, hb7⟩))
                go_roundw
                case rel => exact ⟨i + 1, by omega, by go_num, by rw [HF0.out]; go_num, by rw [HF2.out]; rfl, Lib.hid (fun j hj => by
                  by_cases h : j < i
                  · exact HJ.out j h
                  · obtain rfl : j = i := by omega
                    rw [HA.out, HS.out]; decide), hst3.below hb7, bC3.below hb7⟩
                case measure => simp [intOf]; omega
              · rw [show sideI (t, l) (bx a) = 1 by unfold sideI; rw [hs]; rfl] at HSA
                rw [hs] at hf0 hf2
                have HS := Lib.hid hs
                have HF0 := Lib.hid hf0; have HF2 := Lib.hid hf2
                clear hs hf0 hf2
                go_wp2_with (first
                  | (refine wpList_load_mid rfl 126 _ rfl pb (poff + i * 5) rfl (pl1 bx a).toList _ hrg Try.underlying126 rfl Try.sizePl ?_; simp only [pl1])
                  | (refine wpList_load_mid rfl 132 _ rfl cB 0 rfl [.int .i64 (t : Int), .int .i64 (l : Int)] _ rC Try.underlying132 rfl Try.sizeCt ?_)
                  | (refine wpList_load_mid rfl 100 _ rfl wr.heap.size 1 rfl [.int .i64 ((bx a).row : Int), .int .i64 ((bx a).col : Int), .int .i64 ((bx a).high : Int), .int .i64 ((bx a).wide : Int)] _ rX Try.underlying100 rfl Try.sizeBx ?_)
                  | (go_at_call 109; refine (HSA.out _).mono ?_; rintro e w7 ⟨rfl, hb7⟩))
                go_roundw
                case rel => exact ⟨i + 1, by omega, by go_num, by rw [HF0.out]; rfl, by rw [HF2.out]; go_num, Lib.hid (fun j hj => by
                  by_cases h : j < i
                  · exact HJ.out j h
                  · obtain rfl : j = i := by omega
                    rw [HA.out, HS.out]; decide), hst3.below hb7, bC3.below hb7⟩
                case measure => simp [intOf]; omega
              · rw [show sideI (t, l) (bx a) = 0 by unfold sideI; rw [hs]; rfl] at HSA
                rw [hs] at hf0 hf2
                have HS := Lib.hid hs
                have HF0 := Lib.hid hf0; have HF2 := Lib.hid hf2
                clear hs hf0 hf2
                go_wp2_with (first
                  | (refine wpList_load_mid rfl 126 _ rfl pb (poff + i * 5) rfl (pl1 bx a).toList _ hrg Try.underlying126 rfl Try.sizePl ?_; simp only [pl1])
                  | (refine wpList_load_mid rfl 132 _ rfl cB 0 rfl [.int .i64 (t : Int), .int .i64 (l : Int)] _ rC Try.underlying132 rfl Try.sizeCt ?_)
                  | (refine wpList_load_mid rfl 100 _ rfl wr.heap.size 1 rfl [.int .i64 ((bx a).row : Int), .int .i64 ((bx a).col : Int), .int .i64 ((bx a).high : Int), .int .i64 ((bx a).wide : Int)] _ rX Try.underlying100 rfl Try.sizeBx ?_)
                  | (go_at_call 109; refine (HSA.out _).mono ?_; rintro e w7 ⟨rfl, hb7⟩))
                have HK := Lib.hid (HNO.out (HI1.out HS.out))
                go_roundw
                case rel => exact ⟨l + 1, ro, rc, by omega, by omega, by go_num, by rw [HK.out], by rw [HK.out]; exact hst3.below hb7⟩
                case measure => simp [intOf]; omega
            · obtain rfl : i = n := by omega
              have hok := HOI.out HJ.out
              have e0 := HCN.out 0; have e2 := HCN.out 2
              rw [← e0, ← e2] at hok
              have HOK := Lib.hid hok
              clear hok e0 e2
              generalize cn 0 (L.take i) = x0 at *
              generalize cn 2 (L.take i) = x2 at *
              by_cases p0 : 0 < x0
              · by_cases p2 : 0 < x2
                · have hy := HYE.out (by rw [HOK.out, decide_eq_true p0, decide_eq_true p2]; rfl)
                  have HY := Lib.hid hy
                  have p0I : (0 : Int) < (x0 : Int) := by omega
                  have p2I : (0 : Int) < (x2 : Int) := by omega
                  have hk10 := HK10.out
                  have c0 := bC.cell 0; have c1 := bC.cell 1
                  rw [show (#[.int .i64 (t : Int), .int .i64 (l : Int)] : Array Value)[0]? = some (.int .i64 (t : Int)) from rfl] at c0
                  rw [show (#[.int .i64 (t : Int), .int .i64 (l : Int)] : Array Value)[1]? = some (.int .i64 (l : Int)) from rfl] at c1
                  have h63 : K.length + 1 ≤ maxLen := by unfold maxLen; omega
                  have hnb := hst.2.2.size
                  have hb1 := hst.2.1.lt
                  clear hy
                  go_wp2_with (at_builtin; refine wpList_pushK _ rfl _ _ 127 rfl (w.heap.size + 1) 132 ic (.agg #[.int .i64 0, .int .i64 0]) 2 16 Try.underlying127 hci hcz hc1 hc2 rfl (by decide) ro K.length rc _ rfl (ownsRow_below hst.1 (below_alloc _ _)) (#[.int .i64 (t : Int), .int .i64 (l : Int)] : Array Value).toList 1 _ 0 1 rfl (by decide) rfl (cells_new _ _ _) (ct_ones (t, l)) h63 (by omega) (by simp; omega) ?_; intro ao2 cap2 w3 hown3 hg3 hnew3)
                  have hown4 : w3.ownsRow (w.heap.size + 1) 132 2 (.slice ao2 (K ++ [(t, l)]).length cap2) (K ++ [(t, l)]).length (ctL (K ++ [(t, l)])) := by
                    rw [List.length_append, ctL_snoc]; exact hown3
                  have hst4 : CtSt w (K ++ [(t, l)]) ao2 cap2 w3 := ⟨hown4, kept_own (hst.2.1.alloc _) hg3 (fun a ha => by have := (owns_lt hst.1 a ha).1; omega), below_push hst.2.2 hnb hg3 (fun a ha => by have := (owns_lt hst.1 a ha).1; omega)⟩
                  have HLN2 := Lib.hid (show (K ++ [(t, l)]).length = K.length + 1 by rw [List.length_append]; rfl)
                  go_roundw
                  case rel => exact ⟨l + 1, ao2, cap2, by omega, by omega, by go_num, by rw [HY.out, HLN2.out], by rw [HY.out]; exact hst4⟩
                  case measure => simp [intOf]; omega
                · have hy := HNO.out (by rw [HOK.out, decide_eq_false p2, Bool.and_false])
                  have HY := Lib.hid hy
                  have p0I : (0 : Int) < (x0 : Int) := by omega
                  have p2I : ¬ (0 : Int) < (x2 : Int) := by omega
                  clear hy
                  go_wp2
                  go_roundw
                  case rel => exact ⟨l + 1, ro, rc, by omega, by omega, by go_num, by rw [HY.out], by rw [HY.out]; exact hst⟩
                  case measure => simp [intOf]; omega
              · have hy := HNO.out (by rw [HOK.out, decide_eq_false p0, Bool.false_and])
                have HY := Lib.hid hy
                have p0I : ¬ (0 : Int) < (x0 : Int) := by omega
                clear hy
                go_wp2
                go_roundw
                case rel => exact ⟨l + 1, ro, rc, by omega, by omega, by go_num, by rw [HY.out], by rw [HY.out]; exact hst⟩
                case measure => simp [intOf]; omega
        · have hl6e : l = 6 := by omega
          have HK := Lib.hid (show linesK bx L t l = linesK bx L (t + 1) 1 by rw [hl6e]; exact linesK_next bx L t)
          have hlI : ¬ (l : Int) < 6 := by omega
          clear hl6e
          go_wp2
          go_roundw
          case rel => exact ⟨t + 1, ro, rc, by omega, by go_num, by rw [HK.out], by rw [← HK.out]; exact hst⟩
          case measure => simp [intOf]; omega
    · have ht2e : t = 2 := by omega
      have HE := Lib.hid (show linesK bx L t 1 = linesK bx L 2 1 by rw [ht2e])
      have htI : ¬ (t : Int) < 2 := by omega
      clear ht2e
      go_wp2
      go_ret
      have hce := ownsK_cells hst.1
      rw [HE.out] at hce
      exact ⟨ro, ⟨rc, by rw [← HE.out]; rfl⟩, hce, hst.2.2⟩

end Go.Proofs.Ytpgcpmfemcfoaaa

/-
  Parts of plans: the first one without a cut. (Walks.)
-/
namespace Go.Proofs.Ytpgcpmfemcfoaaa
open Go.RowKit

theorem okC_cut {h wd : Nat} {g : Nat → Nat → Nat} {r : Nat} {bx : Nat → Bx} (B : Boxy h wd g r bx) {R : Rc} (C : R.Clo g h wd) (c : Nat × Nat) : okC bx (R.rooms g r) c = R.isCut g c := by
  have hcnt : ∀ v, 0 < cntF (fun a => sideN c (bx a)) v (R.rooms g r) ↔ ∃ a ∈ R.rooms g r, sideN c (bx a) = v := fun v => by
    unfold cntF
    rw [List.length_pos_iff_exists_mem]
    constructor
    · rintro ⟨a, ha⟩
      rw [List.mem_filter, decide_eq_true_eq] at ha
      exact ⟨a, ha⟩
    · rintro ⟨a, ha⟩
      exact ⟨a, by rw [List.mem_filter, decide_eq_true_eq]; exact ha⟩
  rw [Bool.eq_iff_iff, B.cut_iff C c]
  unfold okC
  rw [Bool.and_eq_true, Bool.and_eq_true, List.all_eq_true, decide_eq_true_eq, decide_eq_true_eq, hcnt, hcnt]
  simp only [decide_eq_true_eq]
theorem cutsR_any {h wd : Nat} {g : Nat → Nat → Nat} {r : Nat} {bx : Nat → Bx} (B : Boxy h wd g r bx) (R : Rc) (C : R.Clo g h wd) (po : Option Addr) (cap : Nat) (w : World) (hc : CellsAt w po (plL bx (R.rooms g r))) :
    Calls Try.prog 83 #[.slice po (R.rooms g r).length cap] w
      fun e w' => ∃ ro rc, e = .returned (.slice ro (R.cuts g).length rc) ∧ CellsAt w' ro (ctL (R.cuts g)) ∧ Below w.heap.size w w' := by
  have h := cuts_any bx (R.rooms g r) (R.rooms g r).length po cap w rfl (Nat.le_trans Rc.rooms_few B.few) (B.rooms_pos C) hc
  have e : linesC.filter (okC bx (R.rooms g r)) = R.cuts g := by
    unfold Rc.cuts
    exact List.filter_congr fun c _ => okC_cut B C c
  rw [e] at h
  exact h
theorem apartR_any {h wd : Nat} {g : Nat → Nat → Nat} {r : Nat} {bx : Nat → Bx} (B : Boxy h wd g r bx) (R : Rc) (C : R.Clo g h wd) (c : Nat × Nat) (hc0 : c ∈ R.cuts g) (po : Option Addr) (cap : Nat) (w : World) (hc : CellsAt w po (plL bx (R.rooms g r))) :
    Calls Try.prog 84 #[.slice po (R.rooms g r).length cap, .agg (ctC c)] w
      fun e w' => ∃ ra ca rb cb, e = .returned (.tuple #[.slice ra ((R.left c).rooms g r).length ca, .slice rb ((R.right c).rooms g r).length cb]) ∧
        CellsAt w' ra (plL bx ((R.left c).rooms g r)) ∧ CellsAt w' rb (plL bx ((R.right c).rooms g r)) ∧ Below w.heap.size w w' := by
  have hm := Rc.cuts_mem hc0
  have h6 : c.2 < 6 := by unfold Rc.cuts at hc0; rw [List.mem_filter, mem_linesC] at hc0; exact hc0.1.2.2
  have eL := B.left_rooms C hm.2.1 hm.2.2
  have eR := B.right_rooms C hm.2.1 hm.2.2
  have pL := B.rooms_pos (C.left B.rect hm.2.1 hm.2.2)
  have pR := B.rooms_pos (C.right B.rect hm.2.1 hm.2.2)
  rw [eL] at pL
  rw [eR] at pR
  have h := apart_any c bx (R.rooms g r).length (R.rooms g r) po cap w (Nat.le_trans Rc.rooms_few B.few) hm.1 h6 rfl (fun x hx => by
    rw [Rc.mem_rooms] at hx
    have := B.side_cut C hm.2.1 hm.2.2 hx.1 hx.2
    have := sideN_two c (bx x)
    omega) pL pR hc
  rw [eL, eR]
  refine h.mono ?_
  rintro e w' ⟨g', rfl, h1, h2, h3⟩
  exact ⟨_, _, _, _, rfl, h1, h2, h3⟩
/-- what is told of a part without a cut -/
def StkRet (o : Option Rc) (g : Nat → Nat → Nat) (r : Nat) (bx : Nat → Bx) (e : Ending) (w' : World) : Prop :=
  ∃ ro m rc, e = .returned (.slice ro m rc) ∧ (o = none → ro = none ∧ m = 0 ∧ rc = 0) ∧ ∀ S, o = some S → ∃ a, ro = some a ∧ m = (S.rooms g r).length ∧ CellsAt w' ro (plL bx (S.rooms g r))
theorem StkRet.below {o : Option Rc} {g : Nat → Nat → Nat} {r : Nat} {bx : Nat → Bx} {e : Ending} {w' w'' : World} (h : StkRet o g r bx e w') (hb : Below w'.heap.size w' w'') : StkRet o g r bx e w'' := by
  obtain ⟨ro, m, rc, h1, h2, h3⟩ := h
  refine ⟨ro, m, rc, h1, h2, fun S hS => ?_⟩
  obtain ⟨a, ha, hm, hc⟩ := h3 S hS
  exact ⟨a, ha, hm, hc.below hb⟩
theorem ctL_at {K : List (Nat × Nat)} {c : Nat × Nat} (h : K.head? = some c) : (ctL K)[0]? = some (.int .i64 ((c.1 : Nat) : Int)) ∧ (ctL K)[1]? = some (.int .i64 ((c.2 : Nat) : Int)) := by
  cases K with
  | nil => cases h
  | cons a K => cases h; exact ⟨rfl, rfl⟩
set_option maxRecDepth 100000 in
set_option maxHeartbeats 4000000 in
theorem stuck_any {h wd : Nat} {g : Nat → Nat → Nat} {r : Nat} {bx : Nat → Bx} (B : Boxy h wd g r bx) : ∀ (n : Nat) (R : Rc) (po : Option Addr) (cap : Nat) (w : World), R.Clo g h wd → R.h + R.w ≤ n → CellsAt w po (plL bx (R.rooms g r)) →
    Calls Try.prog 49 #[.slice po (R.rooms g r).length cap] w fun e w' => StkRet (R.stuck g n) g r bx e w' ∧ Below w.heap.size w w'
  | 0, R, _, _, _, C, hn, _ => by have := C.fit.h1; omega
  | n + 1, R, po, cap, w, C, hn, hc => by
    have HIH := Lib.hid (fun R po cap w C hn hc => stuck_any B n R po cap w C hn hc)
    have HCU := Lib.hid (cutsR_any B R C po cap w hc)
    have hone := B.one_len C
    have hpos := B.rooms_pos C
    have hN0 : ∀ W, (binOp .neq 74 (.slice none 0 0) (.slice none 0 0)).run Try.prog W = .ok (.bool false) W := fun W => run_neq_slice_nil_any W _ _ none 0 0 0 0 Try.underlying74
    have hN1 : ∀ a m c W, (binOp .neq 74 (.slice (some a) m c) (.slice none 0 0)).run Try.prog W = .ok (.bool true) W := fun a m c W => run_neq_slice_nil_any W _ _ (some a) m c 0 0 Try.underlying74
    cases h1 : R.one g
    · rw [h1] at hone
      have hlen : 2 ≤ (R.rooms g r).length := by
        rcases Nat.lt_or_ge (R.rooms g r).length 2 with h | h
        · rw [decide_eq_true (show (R.rooms g r).length = 1 by omega)] at hone; cases hone
        · exact h
      cases hcc : (R.cuts g).head? with
      | none =>
        rw [Rc.stuck_no h1 hcc]
        rw [List.head?_eq_none_iff] at hcc
        rw [hcc] at HCU
        obtain ⟨pb, poff, rfl, -⟩ := hc 0 _ (plL_at (bx := bx) (L := R.rooms g r) (k := 0) (by omega))
        have hle : ¬ ((R.rooms g r).length : Int) ≤ 1 := by omega
        have HC := Lib.hid hc
        clear h1 hone hcc HIH hc hpos hlen
        unfold StkRet
        go_enter Try.func49, Try.ntmps49
        go_wp2_with (go_at_call 83; refine HCU.out.mono ?_; rintro e w1 ⟨ro, rc, rfl, hcl, hb1⟩)
        go_ret
        exact ⟨⟨_, _, _, rfl, fun h => (by cases h), fun S hS => (by cases hS; exact ⟨_, rfl, rfl, HC.out.below hb1⟩)⟩, hb1⟩
      | some c =>
        have hmem := head_cut hcc
        have hm := Rc.cuts_mem hmem
        rw [Rc.stuck_cut h1 hcc]
        have HAP := Lib.hid (fun w hc => apartR_any B R C c hmem po cap w hc)
        have HF1 := Rc.fit_left C.fit hm.2.1; have HF2 := Rc.fit_right C.fit hm.2.1
        have HL := Lib.hid (fun po cap w hc => HIH.out (R.left c) po cap w (C.left B.rect hm.2.1 hm.2.2) (by omega) hc)
        have HR := Lib.hid (fun po cap w hc => HIH.out (R.right c) po cap w (C.right B.rect hm.2.1 hm.2.2) (by omega) hc)
        have hk := ctL_at hcc
        have hkl : 0 < (R.cuts g).length := List.length_pos_of_mem hmem
        have hle : ¬ ((R.rooms g r).length : Int) ≤ 1 := by omega
        generalize (R.cuts g).length = kl at *
        generalize ctL (R.cuts g) = CL at *
        have HC := Lib.hid hc
        clear h1 hone hcc HIH hc hpos hlen hmem hm HF1 HF2
        generalize (R.left c).stuck g n = sa at *
        generalize (R.right c).stuck g n = sb at *
        generalize R.left c = RL at *
        generalize R.right c = RR at *
        obtain ⟨c1, c2⟩ := c
        unfold ctC at HAP
        simp only at hk HAP
        have hkl0 : ((kl : Int) == 0) = false := by rw [beq_eq_false_iff_ne]; omega
        have hklI : (0 : Int) < (kl : Int) := by omega
        go_enter Try.func49, Try.ntmps49
        go_wp2_with fail
        refine HCU.out.mono ?_
        rintro e w1 ⟨ro, rc, rfl, hcl, hb1⟩
        obtain ⟨kb, ko, rfl, k0⟩ := hcl 0 _ hk.1
        obtain ⟨kb', ko', e2, k1⟩ := hcl 1 _ hk.2
        cases e2
        rw [Nat.add_zero] at k0
        clear hcl
        go_wp2_with fail
        refine (HAP.out _ (HC.out.below hb1)).mono ?_
        rintro e w2 ⟨ra, ca, rb, cb, rfl, hca, hcb, hb2⟩
        have hb3 := below_step hb1 hb1.size hb2
        clear hb1 hb2 HAP HCU k0 k1
        go_wp2_with fail
        refine (HL.out _ _ _ hca).mono ?_
        rintro e w4 ⟨⟨so, m, sc, rfl, hs1, hs2⟩, hb4⟩
        have hcb4 := hcb.below hb4
        have hb5 := below_step hb3 hb3.size hb4
        clear hb3 hb4 hca hcb HL
        cases sa with
        | none =>
          obtain ⟨rfl, rfl, rfl⟩ := hs1 rfl
          clear hs1 hs2
          go_wp2_with fail
          refine (HR.out _ _ _ hcb4).mono ?_
          rintro e w6 ⟨⟨to, m, tc, rfl, ht1, ht2⟩, hb6⟩
          have HT1 := Lib.hid ht1; have HT2 := Lib.hid ht2
          clear ht1 ht2
          go_wp2
          go_ret
          exact ⟨⟨to, m, tc, rfl, HT1.out, HT2.out⟩, below_step hb5 hb5.size hb6⟩
        | some S =>
          obtain ⟨a, rfl, rfl, hcs⟩ := hs2 S rfl
          have HCS := Lib.hid hcs
          clear hs1 hs2 hcs
          go_wp2
          go_ret
          exact ⟨⟨_, _, _, rfl, fun h => (by cases h), fun T hT => (by cases hT; exact ⟨a, rfl, rfl, HCS.out⟩)⟩, hb5⟩
    · rw [h1] at hone
      have hlen : (R.rooms g r).length = 1 := of_decide_eq_true hone.symm
      rw [Rc.stuck_one h1]
      rw [hlen]
      clear h1 hone HIH HCU hlen
      go_enter Try.func49, Try.ntmps49
      go_wp2
      go_ret
      exact ⟨⟨_, _, _, rfl, fun _ => ⟨rfl, rfl, rfl⟩, fun S hS => by cases hS⟩, Below.refl _ _⟩

end Go.Proofs.Ytpgcpmfemcfoaaa
