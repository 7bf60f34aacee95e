
/-
  Merged texts: GuiQ GuiR.
-/
import Derived.Test.YtcndlfkmmgdpaaaGuiP
import Derived.Test.YtcndlfkmmgdpaaaTightN
import Derived.Test.YtcndlfkmmgdpaaaPair

/-
  Plans that are cut stay so when rows and columns are dropped or repeated, in their order; and read backwards. (Mathematics.)
-/
namespace Go.Proofs.Ytcndlfkmmgdpaaa
open Go.RowKit

/-- the first place from which on a test holds, for a test that stays once it holds -/
theorem split_at {P : Nat → Bool} {a n : Nat} (mono : ∀ i j, a ≤ i → i ≤ j → j < a + n → P i = true → P j = true) (h0 : P a = false) (h1 : P (a + n - 1) = true) (hn : 1 ≤ n) :
    ∃ l, a < l ∧ l < a + n ∧ (∀ i, a ≤ i → i < a + n → (P i = true ↔ l ≤ i)) := by
  have key : ∀ k, k < n → P (a + k) = true → ∃ l, a < l ∧ l ≤ a + k ∧ P l = true ∧ P (l - 1) = false := by
    intro k
    induction k with
    | zero => intro _ h; rw [Nat.add_zero, h0] at h; cases h
    | succ k ih =>
      intro hk h
      cases hp : P (a + k)
      · exact ⟨a + (k + 1), by omega, Nat.le_refl _, h, by rw [show a + (k + 1) - 1 = a + k by omega]; exact hp⟩
      · obtain ⟨l, x1, x2, x3, x4⟩ := ih (by omega) hp
        exact ⟨l, x1, by omega, x3, x4⟩
  obtain ⟨l, x1, x2, x3, x4⟩ := key (n - 1) (by omega) (by rw [show a + (n - 1) = a + n - 1 by omega]; exact h1)
  refine ⟨l, x1, by omega, fun i hi hin => ⟨fun h => ?_, fun h => mono l i (by omega) h hin x3⟩⟩
  refine Classical.byContradiction fun hlt => ?_
  have := mono i (l - 1) hi (by omega) (by omega) h
  rw [x4] at this; cases this

/-- a rectangle of a grid whose cells are those of another one, rows and columns taken in their order -/
structure PullC (g g' : Nat → Nat → Nat) (φ ψ : Nat → Nat) (R R' : Rc) : Prop where
  h1 : 1 ≤ R'.h
  w1 : 1 ≤ R'.w
  into : ∀ i j, R'.has i j → R.has (φ i) (ψ j)
  rows : ∀ i i2, R'.r0 ≤ i → i ≤ i2 → i2 < R'.r0 + R'.h → φ i ≤ φ i2
  cols : ∀ j j2, R'.c0 ≤ j → j ≤ j2 → j2 < R'.c0 + R'.w → ψ j ≤ ψ j2
  same : ∀ i j i2 j2, R'.has i j → R'.has i2 j2 → (g' i j = g' i2 j2 ↔ g (φ i) (ψ j) = g (φ i2) (ψ j2))
theorem Gui.pull {g g' : Nat → Nat → Nat} {φ ψ : Nat → Nat} {h wd : Nat} (hg : RectG h wd g) {R : Rc} (G : Gui g R) : R.Clo g h wd → ∀ R' : Rc, PullC g g' φ ψ R R' → Gui g' R' := by
  induction G with
  | one R h1 =>
    intro C R' P
    have ho := Rc.one_iff.1 h1
    have p1 := P.h1; have p2 := P.w1
    have h0 : R'.has R'.r0 R'.c0 := ⟨by omega, by omega, by omega, by omega⟩
    refine .one _ (Rc.one_iff.2 fun i j hij => (P.same _ _ _ _ hij h0).2 ?_)
    rw [ho _ _ (P.into _ _ hij), ho _ _ (P.into _ _ h0)]
  | cut R c a b d _ _ ih1 ih2 =>
    intro C R' P
    have CL := C.left hg b d; have CR := C.right hg b d
    have p1 := P.h1; have p2 := P.w1
    have two := fun {i j i2 j2 : Nat} => free_two (i := i) (j := j) (i' := i2) (j' := j2) hg C b d
    by_cases h0 : c.1 = 0
    · have hl : ∀ {i j}, (R.left c).has i j ↔ R.has i j ∧ j < c.2 := fun {i j} => by have := Rc.left_has (i := i) (j := j) b; rwa [if_pos h0] at this
      have hr : ∀ {i j}, (R.right c).has i j ↔ R.has i j ∧ c.2 ≤ j := fun {i j} => by have := Rc.right_has (i := i) (j := j) b; rwa [if_pos h0] at this
      by_cases hA : c.2 ≤ ψ R'.c0
      · refine ih2 CR R' ⟨p1, p2, fun i j hij => hr.2 ⟨P.into _ _ hij, ?_⟩, P.rows, P.cols, P.same⟩
        obtain ⟨_, _, x3, x4⟩ := hij
        have := P.cols R'.c0 j (Nat.le_refl _) x3 x4; omega
      · by_cases hB : ψ (R'.c0 + R'.w - 1) < c.2
        · refine ih1 CL R' ⟨p1, p2, fun i j hij => hl.2 ⟨P.into _ _ hij, ?_⟩, P.rows, P.cols, P.same⟩
          obtain ⟨_, _, x3, x4⟩ := hij
          have := P.cols j (R'.c0 + R'.w - 1) x3 (by omega) (by omega); omega
        · obtain ⟨l, l1, l2, l3⟩ := split_at (P := fun j => decide (c.2 ≤ ψ j)) (a := R'.c0) (n := R'.w) (fun i j x1 x2 x3 h => by
            rw [decide_eq_true_eq] at h ⊢; have := P.cols i j x1 x2 x3; omega) (by simp only [decide_eq_false_iff_not]; exact hA) (by simp only [decide_eq_true_eq]; omega) p2
          simp only [decide_eq_true_eq] at l3
          have i' : R'.ins (0, l) = true := (Rc.ins_up rfl).2 ⟨l1, l2⟩
          have L : R'.left (0, l) = ⟨R'.r0, R'.h, R'.c0, l - R'.c0⟩ := Rc.left_up rfl
          have Rt : R'.right (0, l) = ⟨R'.r0, R'.h, l, R'.c0 + R'.w - l⟩ := Rc.right_up rfl
          refine .cut _ (0, l) (by simp) i' ((Rc.free_up rfl).2 fun i x1 x2 he => ?_) (ih1 CL _ ?_) (ih2 CR _ ?_)
          · have q1 : R'.has i (l - 1) := ⟨x1, x2, by omega, by omega⟩
            have q2 : R'.has i l := ⟨x1, x2, by omega, by omega⟩
            refine two (hl.2 ⟨P.into _ _ q1, ?_⟩) (hr.2 ⟨P.into _ _ q2, (l3 l (by omega) (by omega)).2 (Nat.le_refl _)⟩) ((P.same _ _ _ _ q1 q2).1 he).symm
            refine Classical.byContradiction fun hge => ?_
            have := (l3 (l - 1) (by omega) (by omega)).1 (by omega)
            omega
          · rw [L]
            refine ⟨p1, by show 1 ≤ l - R'.c0; omega, fun i j hij => ?_, P.rows, fun j j2 x1 x2 x3 => P.cols j j2 x1 x2 (by have : j2 < R'.c0 + (l - R'.c0) := x3; omega), fun i j i2 j2 x1 x2 => ?_⟩
            · obtain ⟨y1, y2, y3, y4⟩ := hij
              have z3 : R'.c0 ≤ j := y3
              have z4 : j < R'.c0 + (l - R'.c0) := y4
              refine hl.2 ⟨P.into _ _ ⟨y1, y2, z3, by omega⟩, Classical.byContradiction fun hge => ?_⟩
              have := (l3 j z3 (by omega)).1 (by omega)
              omega
            · have w1 : R'.has i j := ⟨x1.1, x1.2.1, x1.2.2.1, by have : j < R'.c0 + (l - R'.c0) := x1.2.2.2; omega⟩
              have w2 : R'.has i2 j2 := ⟨x2.1, x2.2.1, x2.2.2.1, by have : j2 < R'.c0 + (l - R'.c0) := x2.2.2.2; omega⟩
              exact P.same _ _ _ _ w1 w2
          · rw [Rt]
            refine ⟨p1, by show 1 ≤ R'.c0 + R'.w - l; omega, fun i j hij => ?_, P.rows, fun j j2 x1 x2 x3 => P.cols j j2 (by have : l ≤ j := x1; omega) x2 (by have : j2 < l + (R'.c0 + R'.w - l) := x3; omega), fun i j i2 j2 x1 x2 => ?_⟩
            · obtain ⟨y1, y2, y3, y4⟩ := hij
              have z3 : l ≤ j := y3
              have z4 : j < l + (R'.c0 + R'.w - l) := y4
              exact hr.2 ⟨P.into _ _ ⟨y1, y2, by omega, by omega⟩, (l3 j (by omega) (by omega)).2 z3⟩
            · have w1 : R'.has i j := ⟨x1.1, x1.2.1, by have : l ≤ j := x1.2.2.1; omega, by have : j < l + (R'.c0 + R'.w - l) := x1.2.2.2; omega⟩
              have w2 : R'.has i2 j2 := ⟨x2.1, x2.2.1, by have : l ≤ j2 := x2.2.2.1; omega, by have : j2 < l + (R'.c0 + R'.w - l) := x2.2.2.2; omega⟩
              exact P.same _ _ _ _ w1 w2
    · have hl : ∀ {i j}, (R.left c).has i j ↔ R.has i j ∧ i < c.2 := fun {i j} => by have := Rc.left_has (i := i) (j := j) b; rwa [if_neg h0] at this
      have hr : ∀ {i j}, (R.right c).has i j ↔ R.has i j ∧ c.2 ≤ i := fun {i j} => by have := Rc.right_has (i := i) (j := j) b; rwa [if_neg h0] at this
      by_cases hA : c.2 ≤ φ R'.r0
      · refine ih2 CR R' ⟨p1, p2, fun i j hij => hr.2 ⟨P.into _ _ hij, ?_⟩, P.rows, P.cols, P.same⟩
        obtain ⟨x1, x2, _, _⟩ := hij
        have := P.rows R'.r0 i (Nat.le_refl _) x1 x2; omega
      · by_cases hB : φ (R'.r0 + R'.h - 1) < c.2
        · refine ih1 CL R' ⟨p1, p2, fun i j hij => hl.2 ⟨P.into _ _ hij, ?_⟩, P.rows, P.cols, P.same⟩
          obtain ⟨x1, x2, _, _⟩ := hij
          have := P.rows i (R'.r0 + R'.h - 1) x1 (by omega) (by omega); omega
        · obtain ⟨l, l1, l2, l3⟩ := split_at (P := fun i => decide (c.2 ≤ φ i)) (a := R'.r0) (n := R'.h) (fun i j x1 x2 x3 h => by
            rw [decide_eq_true_eq] at h ⊢; have := P.rows i j x1 x2 x3; omega) (by simp only [decide_eq_false_iff_not]; exact hA) (by simp only [decide_eq_true_eq]; omega) p1
          simp only [decide_eq_true_eq] at l3
          have i' : R'.ins (1, l) = true := (Rc.ins_lv (by simp)).2 ⟨l1, l2⟩
          have L : R'.left (1, l) = ⟨R'.r0, l - R'.r0, R'.c0, R'.w⟩ := Rc.left_lv (by simp)
          have Rt : R'.right (1, l) = ⟨l, R'.r0 + R'.h - l, R'.c0, R'.w⟩ := Rc.right_lv (by simp)
          refine .cut _ (1, l) (by simp) i' ((Rc.free_lv (by simp)).2 fun j x1 x2 he => ?_) (ih1 CL _ ?_) (ih2 CR _ ?_)
          · have q1 : R'.has (l - 1) j := ⟨by omega, by omega, x1, x2⟩
            have q2 : R'.has l j := ⟨by omega, by omega, x1, x2⟩
            refine two (hl.2 ⟨P.into _ _ q1, ?_⟩) (hr.2 ⟨P.into _ _ q2, (l3 l (by omega) (by omega)).2 (Nat.le_refl _)⟩) ((P.same _ _ _ _ q1 q2).1 he).symm
            refine Classical.byContradiction fun hge => ?_
            have := (l3 (l - 1) (by omega) (by omega)).1 (by omega)
            omega
          · rw [L]
            refine ⟨by show 1 ≤ l - R'.r0; omega, p2, fun i j hij => ?_, fun i i2 x1 x2 x3 => P.rows i i2 x1 x2 (by have : i2 < R'.r0 + (l - R'.r0) := x3; omega), P.cols, fun i j i2 j2 x1 x2 => ?_⟩
            · obtain ⟨y1, y2, y3, y4⟩ := hij
              have z3 : R'.r0 ≤ i := y1
              have z4 : i < R'.r0 + (l - R'.r0) := y2
              refine hl.2 ⟨P.into _ _ ⟨z3, by omega, y3, y4⟩, Classical.byContradiction fun hge => ?_⟩
              have := (l3 i z3 (by omega)).1 (by omega)
              omega
            · have w1 : R'.has i j := ⟨x1.1, by have : i < R'.r0 + (l - R'.r0) := x1.2.1; omega, x1.2.2⟩
              have w2 : R'.has i2 j2 := ⟨x2.1, by have : i2 < R'.r0 + (l - R'.r0) := x2.2.1; omega, x2.2.2⟩
              exact P.same _ _ _ _ w1 w2
          · rw [Rt]
            refine ⟨by show 1 ≤ R'.r0 + R'.h - l; omega, p2, fun i j hij => ?_, fun i i2 x1 x2 x3 => P.rows i i2 (by have : l ≤ i := x1; omega) x2 (by have : i2 < l + (R'.r0 + R'.h - l) := x3; omega), P.cols, fun i j i2 j2 x1 x2 => ?_⟩
            · obtain ⟨y1, y2, y3, y4⟩ := hij
              have z3 : l ≤ i := y1
              have z4 : i < l + (R'.r0 + R'.h - l) := y2
              exact hr.2 ⟨P.into _ _ ⟨by omega, by omega, y3, y4⟩, (l3 i (by omega) (by omega)).2 z3⟩
            · have w1 : R'.has i j := ⟨by have : l ≤ i := x1.1; omega, by have : i < l + (R'.r0 + R'.h - l) := x1.2.1; omega, x1.2.2⟩
              have w2 : R'.has i2 j2 := ⟨by have : l ≤ i2 := x2.1; omega, by have : i2 < l + (R'.r0 + R'.h - l) := x2.2.1; omega, x2.2.2⟩
              exact P.same _ _ _ _ w1 w2

/-! # read backwards -/
def flipR (wd : Nat) (R : Rc) : Rc := ⟨R.r0, R.h, wd - (R.c0 + R.w), R.w⟩
def flipC (wd : Nat) (c : Nat × Nat) : Nat × Nat := if c.1 = 0 then (0, wd - c.2) else (1, c.2)

theorem sy_flip {h wd : Nat} {g g' : Nat → Nat → Nat} (hh : h ≤ 6) (hw : wd ≤ 6) (T : SameG h wd (fun i j => g i (wd - 1 - j)) g') : Sy h wd h wd g g' (flipR wd) (flipC wd) where
  fit R F := by
    obtain ⟨a, b, c, d⟩ := F
    exact ⟨⟨a, b, c, by show wd - (R.c0 + R.w) + R.w ≤ wd; omega⟩, rfl⟩
  one R F := by
    obtain ⟨a, b, c, d⟩ := F
    rw [Bool.eq_iff_iff, Rc.one_iff, Rc.one_iff]
    have ht : ∀ i j, R.has i j → (flipR wd R).has i (wd - 1 - j) := fun i j hij => by
      obtain ⟨h1, h2, h3, h4⟩ := hij
      exact ⟨h1, h2, by show wd - (R.c0 + R.w) ≤ _; omega, by show _ < wd - (R.c0 + R.w) + R.w; omega⟩
    constructor
    · intro H i j hij
      have h1 := ht i j hij
      have h2 := ht R.r0 R.c0 ⟨by omega, by omega, by omega, by omega⟩
      have e1 := (H _ _ h1).trans (H _ _ h2).symm
      obtain ⟨x1, x2, x3, x4⟩ := hij
      have := (T R.r0 (wd - 1 - R.c0) i (wd - 1 - j) (by omega) (by omega) (by omega) (by omega)).1 e1
      simp only at this
      rwa [show wd - 1 - (wd - 1 - j) = j by omega, show wd - 1 - (wd - 1 - R.c0) = R.c0 by omega] at this
    · intro H i j hij
      obtain ⟨x1, x2, x3, x4⟩ := hij
      have y1 : R.r0 ≤ i := x1
      have y2 : i < R.r0 + R.h := x2
      have y3 : wd - (R.c0 + R.w) ≤ j := x3
      have y4 : j < wd - (R.c0 + R.w) + R.w := x4
      show g' i j = g' R.r0 (wd - (R.c0 + R.w))
      refine (T _ _ _ _ (by omega) (by omega) (by omega) (by omega)).2 ?_
      show g i (wd - 1 - j) = g R.r0 (wd - 1 - (wd - (R.c0 + R.w)))
      rw [H i (wd - 1 - j) ⟨y1, y2, by omega, by omega⟩, H R.r0 (wd - 1 - (wd - (R.c0 + R.w))) ⟨by omega, by omega, by omega, by omega⟩]
  cut R c F hc := by
    have hm := Rc.cuts_mem hc
    have F' : (flipR wd R).Fit h wd := by
      obtain ⟨a, b, c, d⟩ := F
      exact ⟨a, b, c, by show wd - (R.c0 + R.w) + R.w ≤ wd; omega⟩
    have f1 := F.h1; have f2 := F.w1; have f3 := F.hh; have f4 := F.hw
    by_cases h0 : c.1 = 0
    · have hi := (Rc.ins_up h0).1 hm.2.1
      have hf := (Rc.free_up h0).1 hm.2.2
      have e : flipC wd c = (0, wd - c.2) := if_pos h0
      rw [e]
      refine ⟨Rc.mem_cuts F' hh hw (by simp) ((Rc.ins_up rfl).2 ⟨by show wd - (R.c0 + R.w) < wd - c.2; omega, by show wd - c.2 < wd - (R.c0 + R.w) + R.w; omega⟩) ((Rc.free_up rfl).2 fun i y1 y2 he => ?_), .inr ⟨?_, ?_⟩⟩
      · have z1 : R.r0 ≤ i := y1
        have z2 : i < R.r0 + R.h := y2
        have := (T i (wd - c.2) i (wd - c.2 - 1) (by omega) (by omega) (by omega) (by omega)).1 he
        simp only at this
        rw [show wd - 1 - (wd - c.2 - 1) = c.2 by omega, show wd - 1 - (wd - c.2) = c.2 - 1 by omega] at this
        exact hf i z1 z2 this.symm
      · rw [Rc.left_up rfl, Rc.right_up h0]
        show Rc.mk R.r0 R.h (wd - (R.c0 + R.w)) (wd - c.2 - (wd - (R.c0 + R.w))) = Rc.mk R.r0 R.h (wd - (c.2 + (R.c0 + R.w - c.2))) (R.c0 + R.w - c.2)
        rw [Rc.mk.injEq]; omega
      · rw [Rc.right_up rfl, Rc.left_up h0]
        show Rc.mk R.r0 R.h (wd - c.2) (wd - (R.c0 + R.w) + R.w - (wd - c.2)) = Rc.mk R.r0 R.h (wd - (R.c0 + (c.2 - R.c0))) (c.2 - R.c0)
        rw [Rc.mk.injEq]; omega
    · have hi := (Rc.ins_lv h0).1 hm.2.1
      have hf := (Rc.free_lv h0).1 hm.2.2
      have e : flipC wd c = (1, c.2) := if_neg h0
      rw [e]
      refine ⟨Rc.mem_cuts F' hh hw (by simp) ((Rc.ins_lv (by simp)).2 hi) ((Rc.free_lv (by simp)).2 fun j y1 y2 he => ?_), .inl ⟨?_, ?_⟩⟩
      · have z1 : wd - (R.c0 + R.w) ≤ j := y1
        have z2 : j < wd - (R.c0 + R.w) + R.w := y2
        have := (T c.2 j (c.2 - 1) j (by omega) (by omega) (by omega) (by omega)).1 he
        exact hf (wd - 1 - j) (by omega) (by omega) this
      · rw [Rc.left_lv (by simp), Rc.left_lv h0]; rfl
      · rw [Rc.right_lv (by simp), Rc.right_lv h0]; rfl
  sur R c' F hc := by
    have hm := Rc.cuts_mem hc
    have f1 := F.h1; have f2 := F.w1; have f3 := F.hh; have f4 := F.hw
    obtain ⟨way, line⟩ := c'
    rcases (show way = 0 ∨ way = 1 by have := hm.1; simp only at this; omega) with h0 | h0
    · subst h0
      have hi := (Rc.ins_up (c := (0, line)) rfl).1 hm.2.1
      have hf := (Rc.free_up (c := (0, line)) rfl).1 hm.2.2
      have z1 : wd - (R.c0 + R.w) < line := hi.1
      have z2 : line < wd - (R.c0 + R.w) + R.w := hi.2
      refine ⟨(0, wd - line), Rc.mem_cuts F hh hw (by simp) ((Rc.ins_up rfl).2 ⟨by show R.c0 < wd - line; omega, by show wd - line < _; omega⟩) ((Rc.free_up rfl).2 fun i y1 y2 he => ?_), ?_⟩
      · refine hf i y1 y2 ((T _ _ _ _ (by omega) (by omega) (by omega) (by omega)).2 ?_)
        show g i (wd - 1 - (line - 1)) = g i (wd - 1 - line)
        have he' : g i (wd - line - 1) = g i (wd - line) := he
        rw [show wd - 1 - (line - 1) = wd - line by omega, show wd - 1 - line = wd - line - 1 by omega, he']
      · show (if (0 : Nat) = 0 then ((0 : Nat), wd - (wd - line)) else _) = _
        rw [if_pos rfl, show wd - (wd - line) = line by omega]
    · subst h0
      have hi := (Rc.ins_lv (c := (1, line)) (by simp)).1 hm.2.1
      have hf := (Rc.free_lv (c := (1, line)) (by simp)).1 hm.2.2
      have z1 : R.r0 < line := hi.1
      have z2 : line < R.r0 + R.h := hi.2
      refine ⟨(1, line), Rc.mem_cuts F hh hw (by simp) ((Rc.ins_lv (by simp)).2 ⟨z1, z2⟩) ((Rc.free_lv (by simp)).2 fun j y1 y2 he => ?_), rfl⟩
      refine hf (wd - 1 - j) (by show wd - (R.c0 + R.w) ≤ _; omega) (by show _ < wd - (R.c0 + R.w) + R.w; omega) ((T _ _ _ _ (by omega) (by omega) (by omega) (by omega)).2 ?_)
      show g (line - 1) (wd - 1 - (wd - 1 - j)) = g line (wd - 1 - (wd - 1 - j))
      rw [show wd - 1 - (wd - 1 - j) = j by omega]
      exact he
  inj R c c2 F hc hc2 he := by
    have hm := Rc.cuts_mem hc; have hm2 := Rc.cuts_mem hc2
    have f4 := F.hw
    unfold flipC at he
    obtain ⟨way, line⟩ := c
    obtain ⟨way2, line2⟩ := c2
    simp only at he hm hm2
    by_cases h0 : way = 0
    · by_cases h02 : way2 = 0
      · rw [if_pos h0, if_pos h02, Prod.mk.injEq] at he
        have i1 := (Rc.ins_up (c := (way, line)) h0).1 hm.2.1
        have i2 := (Rc.ins_up (c := (way2, line2)) h02).1 hm2.2.1
        simp only at i1 i2
        rw [Prod.mk.injEq]; omega
      · rw [if_pos h0, if_neg h02, Prod.mk.injEq] at he
        exact absurd he.1 (by simp)
    · by_cases h02 : way2 = 0
      · rw [if_neg h0, if_pos h02, Prod.mk.injEq] at he
        exact absurd he.1 (by simp)
      · rw [if_neg h0, if_neg h02, Prod.mk.injEq] at he
        rw [Prod.mk.injEq]; omega
/-- a plan read backwards is cut as well -/
theorem cut_flip {p : List ByteArray} (hT : (treeP p).isSome = true) : (treeP (namesB (flipB p))).isSome = true := by
  obtain ⟨h, G⟩ := gui_of hT
  have hg := (planP_of h).grid
  have S := sy_flip hg.h6 hg.w6 (is_flip h).same
  have hq := (is_flip h).plan
  have G' := S.gui hg.h6 hg.w6 G (allR_fit h).1
  have e : flipR (wideB p) (allR p) = allR (namesB (flipB p)) := by
    unfold allR flipR
    rw [(is_flip h).len, (is_flip h).wide]
    show Rc.mk 0 p.length (wideB p - (0 + wideB p)) (wideB p) = _
    rw [Rc.mk.injEq]; omega
  rw [e] at G'
  have hg' := (planP_of hq).grid
  obtain ⟨t, ht⟩ := Gui.tree hg'.h6 hg'.w6 (n := 12) (allR_fit hq).1 (allR_fit hq).2 G'
  rw [treeP_yes hq, ht]; rfl

end Go.Proofs.Ytcndlfkmmgdpaaa

/-
  Plans that are cut stay so when made tight, and beside each other. (Mathematics.)
-/
namespace Go.Proofs.Ytcndlfkmmgdpaaa
open Go.RowKit

theorem tree_of {q : List ByteArray} (hq : planB q = true) (G : Gui (gridG q) (allR q)) : (treeP q).isSome = true := by
  have hg' := (planP_of hq).grid
  obtain ⟨t, ht⟩ := Gui.tree hg'.h6 hg'.w6 (n := 12) (allR_fit hq).1 (allR_fit hq).2 G
  rw [treeP_yes hq, ht]; rfl
theorem cut_tight {p : List ByteArray} (hT : (treeP p).isSome = true) : (treeP (tightB p)).isSome = true := by
  obtain ⟨h, G⟩ := gui_of hT
  have I := (Is.self h).tight
  have hd := I.dims
  refine tree_of I.plan (Gui.pull (φ := nthK (srM (gridG p) (wideB p)) p.length) (ψ := nthK (scG (gridG p) p.length) (wideB p)) (boxy_of (planP_of h)).rect G (allR_clo h) _ ?_)
  unfold allR
  rw [I.len, I.wide]
  refine ⟨hd.1, hd.2.2.1, fun i j hij => ?_, fun i i2 _ h2 h3 => ?_, fun j j2 _ h2 h3 => ?_, fun i j i2 j2 x y => ?_⟩
  · obtain ⟨_, x2, _, x4⟩ := hij
    have y2 : i < 0 + (keepL (srM (gridG p) (wideB p)) p.length).length := x2
    have y4 : j < 0 + (keepL (scG (gridG p) p.length) (wideB p)).length := x4
    have a := nthK_lt (same := srM (gridG p) (wideB p)) (n := p.length) (t := i) (by omega)
    have b := nthK_lt (same := scG (gridG p) p.length) (n := wideB p) (t := j) (by omega)
    exact ⟨Nat.zero_le _, by show _ < 0 + p.length; omega, Nat.zero_le _, by show _ < 0 + wideB p; omega⟩
  · have h3' : i2 < 0 + (keepL (srM (gridG p) (wideB p)) p.length).length := h3
    rcases Nat.eq_or_lt_of_le h2 with e | e
    · rw [e]; exact Nat.le_refl _
    · exact Nat.le_of_lt (nthK_mono e (by omega))
  · have h3' : j2 < 0 + (keepL (scG (gridG p) p.length) (wideB p)).length := h3
    rcases Nat.eq_or_lt_of_le h2 with e | e
    · rw [e]; exact Nat.le_refl _
    · exact Nat.le_of_lt (nthK_mono e (by omega))
  · obtain ⟨_, x2, _, x4⟩ := x
    obtain ⟨_, y2, _, y4⟩ := y
    have x2' : i < 0 + (keepL (srM (gridG p) (wideB p)) p.length).length := x2
    have x4' : j < 0 + (keepL (scG (gridG p) p.length) (wideB p)).length := x4
    have y2' : i2 < 0 + (keepL (srM (gridG p) (wideB p)) p.length).length := y2
    have y4' : j2 < 0 + (keepL (scG (gridG p) p.length) (wideB p)).length := y4
    exact I.same i2 j2 i j (by omega) (by omega) (by omega) (by omega)
theorem cut_beside {p : List ByteArray} (hT : (treeP p).isSome = true) (hb : besideOk p p = true) : (treeP (namesB (besideT p p))).isSome = true := by
  obtain ⟨h, G⟩ := gui_of hT
  obtain ⟨_, _, _, I⟩ := is_beside hb
  have hd := I.dims
  have hg := (planP_of h).grid
  have w1 := hg.w1; have h1 := hg.h1
  have rect := (boxy_of (planP_of h)).rect
  refine tree_of I.plan ?_
  have e : allR (namesB (besideT p p)) = ⟨0, p.length, 0, wideB p + wideB p⟩ := by unfold allR; rw [I.len, I.wide]
  rw [e]
  have L : Rc.left ⟨0, p.length, 0, wideB p + wideB p⟩ (0, wideB p) = ⟨0, p.length, 0, wideB p - 0⟩ := Rc.left_up rfl
  have Rt : Rc.right ⟨0, p.length, 0, wideB p + wideB p⟩ (0, wideB p) = ⟨0, p.length, wideB p, 0 + (wideB p + wideB p) - wideB p⟩ := Rc.right_up rfl
  refine .cut _ (0, wideB p) (by simp) ((Rc.ins_up rfl).2 ⟨by show 0 < wideB p; omega, by show wideB p < 0 + (wideB p + wideB p); omega⟩) ((Rc.free_up rfl).2 fun i _ x2 he => ?_) ?_ ?_
  · have y2 : i < 0 + p.length := x2
    have := (I.same i (wideB p) i (wideB p - 1) (by omega) (by omega) (by omega) (by omega)).1 he
    unfold besM at this
    rw [if_pos (by omega), if_neg (by omega)] at this
    have := gridG_9 h (i := i) (j := wideB p - 1) (by omega) (by omega)
    omega
  · rw [L]
    refine Gui.pull (φ := id) (ψ := id) rect G (allR_clo h) _ ⟨h1, by show 1 ≤ wideB p - 0; omega, fun i j hij => ?_, fun _ _ _ a _ => a, fun _ _ _ a _ => a, fun i j i2 j2 x y => ?_⟩
    · obtain ⟨x1, x2, x3, x4⟩ := hij
      have x4' : j < 0 + (wideB p - 0) := x4
      exact ⟨x1, x2, x3, by show j < 0 + wideB p; omega⟩
    · obtain ⟨_, x2, _, x4⟩ := x
      obtain ⟨_, y2, _, y4⟩ := y
      have x2' : i < 0 + p.length := x2
      have x4' : j < 0 + (wideB p - 0) := x4
      have y2' : i2 < 0 + p.length := y2
      have y4' : j2 < 0 + (wideB p - 0) := y4
      have := I.same i2 j2 i j (by omega) (by omega) (by omega) (by omega)
      unfold besM at this
      rwa [if_pos (by omega), if_pos (by omega)] at this
  · rw [Rt]
    refine Gui.pull (φ := id) (ψ := fun j => j - wideB p) rect G (allR_clo h) _ ⟨h1, by show 1 ≤ 0 + (wideB p + wideB p) - wideB p; omega, fun i j hij => ?_, fun _ _ _ a _ => a, fun j j2 _ a _ => by show j - wideB p ≤ j2 - wideB p; omega, fun i j i2 j2 x y => ?_⟩
    · obtain ⟨x1, x2, x3, x4⟩ := hij
      have x4' : j < wideB p + (0 + (wideB p + wideB p) - wideB p) := x4
      exact ⟨x1, x2, Nat.zero_le _, by show j - wideB p < 0 + wideB p; omega⟩
    · obtain ⟨_, x2, x3, x4⟩ := x
      obtain ⟨_, y2, y3, y4⟩ := y
      have x2' : i < 0 + p.length := x2
      have x3' : wideB p ≤ j := x3
      have x4' : j < wideB p + (0 + (wideB p + wideB p) - wideB p) := x4
      have y2' : i2 < 0 + p.length := y2
      have y3' : wideB p ≤ j2 := y3
      have y4' : j2 < wideB p + (0 + (wideB p + wideB p) - wideB p) := y4
      have := I.same i2 j2 i j (by omega) (by omega) (by omega) (by omega)
      unfold besM at this
      rw [if_neg (by omega), if_neg (by omega)] at this
      rw [this]
      show _ ↔ gridG p i (j - wideB p) = gridG p i2 (j2 - wideB p)
      omega

end Go.Proofs.Ytcndlfkmmgdpaaa
