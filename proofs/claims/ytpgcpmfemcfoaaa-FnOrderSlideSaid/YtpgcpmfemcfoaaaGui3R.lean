/-
  Merged texts: Gui1 Gui3.
-/
import Derived.Test.YtpgcpmfemcfoaaaWallsR
import Derived.Test.YtpgcpmfemcfoaaaMathFR
import Derived.Test.YtpgcpmfemcfoaaaLongR
import Derived.Lib.AppendZeros
import Derived.BigRegion
import Derived.Lib.QuietBelow
import Derived.OrdersHeld
import Derived.BigQuiet
import Derived.Deep.MidRow
import Derived.Maps.AppendAt
import Derived.Lib.SliceRun
import Derived.WalkMore
import Derived.Lib.BufferMore
import Derived.WalkSpells

/-
  Merged texts: GuiM GuiN.
-/
/-
  Plans that are cut: rectangles of cells, their cuts, and what is told along them. Plain mathematics; no function of the program is named.
-/
namespace Go.Proofs.Ytpgcpmfemcfoaaa
open Go.RowKit

/-- a rectangle of cells: its first row, its rows, its first column, its columns -/
structure Rc where
  r0 : Nat
  h : Nat
  c0 : Nat
  w : Nat

def Rc.has (R : Rc) (i j : Nat) : Prop := R.r0 ≤ i ∧ i < R.r0 + R.h ∧ R.c0 ≤ j ∧ j < R.c0 + R.w
/-- are all cells of one room -/
def Rc.one (g : Nat → Nat → Nat) (R : Rc) : Bool := (List.range R.h).all fun i => (List.range R.w).all fun j => decide (g (R.r0 + i) (R.c0 + j) = g R.r0 R.c0)
/-- a cut: 0 or 1, and the column to the right of it, or the row below it -/
def Rc.ins (R : Rc) (c : Nat × Nat) : Bool := if c.1 = 0 then decide (R.c0 < c.2) && decide (c.2 < R.c0 + R.w) else decide (R.r0 < c.2) && decide (c.2 < R.r0 + R.h)
def Rc.free (g : Nat → Nat → Nat) (R : Rc) (c : Nat × Nat) : Bool :=
  if c.1 = 0 then (List.range R.h).all fun i => decide (g (R.r0 + i) (c.2 - 1) ≠ g (R.r0 + i) c.2) else (List.range R.w).all fun j => decide (g (c.2 - 1) (R.c0 + j) ≠ g c.2 (R.c0 + j))
theorem Rc.ins_up {R : Rc} {c : Nat × Nat} (h : c.1 = 0) : R.ins c = true ↔ R.c0 < c.2 ∧ c.2 < R.c0 + R.w := by
  unfold Rc.ins; rw [if_pos h, Bool.and_eq_true, decide_eq_true_eq, decide_eq_true_eq]
theorem Rc.ins_lv {R : Rc} {c : Nat × Nat} (h : ¬ c.1 = 0) : R.ins c = true ↔ R.r0 < c.2 ∧ c.2 < R.r0 + R.h := by
  unfold Rc.ins; rw [if_neg h, Bool.and_eq_true, decide_eq_true_eq, decide_eq_true_eq]
theorem Rc.free_up {g : Nat → Nat → Nat} {R : Rc} {c : Nat × Nat} (h : c.1 = 0) : R.free g c = true ↔ ∀ i, R.r0 ≤ i → i < R.r0 + R.h → g i (c.2 - 1) ≠ g i c.2 := by
  unfold Rc.free; rw [if_pos h, List.all_eq_true]
  constructor
  · intro a i h1 h2
    have b := a (i - R.r0) (List.mem_range.2 (by omega))
    rwa [decide_eq_true_eq, show R.r0 + (i - R.r0) = i by omega] at b
  · intro a i hi
    rw [List.mem_range] at hi
    rw [decide_eq_true_eq]
    exact a _ (by omega) (by omega)
theorem Rc.free_lv {g : Nat → Nat → Nat} {R : Rc} {c : Nat × Nat} (h : ¬ c.1 = 0) : R.free g c = true ↔ ∀ j, R.c0 ≤ j → j < R.c0 + R.w → g (c.2 - 1) j ≠ g c.2 j := by
  unfold Rc.free; rw [if_neg h, List.all_eq_true]
  constructor
  · intro a i h1 h2
    have b := a (i - R.c0) (List.mem_range.2 (by omega))
    rwa [decide_eq_true_eq, show R.c0 + (i - R.c0) = i by omega] at b
  · intro a i hi
    rw [List.mem_range] at hi
    rw [decide_eq_true_eq]
    exact a _ (by omega) (by omega)
def Rc.left (R : Rc) (c : Nat × Nat) : Rc := if c.1 = 0 then ⟨R.r0, R.h, R.c0, c.2 - R.c0⟩ else ⟨R.r0, c.2 - R.r0, R.c0, R.w⟩
def Rc.right (R : Rc) (c : Nat × Nat) : Rc := if c.1 = 0 then ⟨R.r0, R.h, c.2, R.c0 + R.w - c.2⟩ else ⟨c.2, R.r0 + R.h - c.2, R.c0, R.w⟩
theorem Rc.left_up {R : Rc} {c : Nat × Nat} (h : c.1 = 0) : R.left c = ⟨R.r0, R.h, R.c0, c.2 - R.c0⟩ := if_pos h
theorem Rc.left_lv {R : Rc} {c : Nat × Nat} (h : ¬ c.1 = 0) : R.left c = ⟨R.r0, c.2 - R.r0, R.c0, R.w⟩ := if_neg h
theorem Rc.right_up {R : Rc} {c : Nat × Nat} (h : c.1 = 0) : R.right c = ⟨R.r0, R.h, c.2, R.c0 + R.w - c.2⟩ := if_pos h
theorem Rc.right_lv {R : Rc} {c : Nat × Nat} (h : ¬ c.1 = 0) : R.right c = ⟨c.2, R.r0 + R.h - c.2, R.c0, R.w⟩ := if_neg h
/-- a rectangle that is not empty, inside a grid -/
structure Rc.Fit (R : Rc) (h wd : Nat) : Prop where
  h1 : 1 ≤ R.h
  w1 : 1 ≤ R.w
  hh : R.r0 + R.h ≤ h
  hw : R.c0 + R.w ≤ wd
theorem Rc.fit_left {R : Rc} {h wd : Nat} {c : Nat × Nat} (F : R.Fit h wd) (hc : R.ins c = true) : (R.left c).Fit h wd ∧ (R.left c).h + (R.left c).w < R.h + R.w := by
  obtain ⟨a1, a2, a3, a4⟩ := F
  by_cases h0 : c.1 = 0
  · rw [Rc.ins_up h0] at hc; rw [Rc.left_up h0]; exact ⟨⟨a1, by show 1 ≤ c.2 - R.c0; omega, a3, by show R.c0 + (c.2 - R.c0) ≤ wd; omega⟩, by show R.h + (c.2 - R.c0) < _; omega⟩
  · rw [Rc.ins_lv h0] at hc; rw [Rc.left_lv h0]; exact ⟨⟨by show 1 ≤ c.2 - R.r0; omega, a2, by show R.r0 + (c.2 - R.r0) ≤ h; omega, a4⟩, by show c.2 - R.r0 + R.w < _; omega⟩
theorem Rc.fit_right {R : Rc} {h wd : Nat} {c : Nat × Nat} (F : R.Fit h wd) (hc : R.ins c = true) : (R.right c).Fit h wd ∧ (R.right c).h + (R.right c).w < R.h + R.w := by
  obtain ⟨a1, a2, a3, a4⟩ := F
  by_cases h0 : c.1 = 0
  · rw [Rc.ins_up h0] at hc; rw [Rc.right_up h0]; exact ⟨⟨a1, by show 1 ≤ R.c0 + R.w - c.2; omega, a3, by show c.2 + (R.c0 + R.w - c.2) ≤ wd; omega⟩, by show R.h + (R.c0 + R.w - c.2) < _; omega⟩
  · rw [Rc.ins_lv h0] at hc; rw [Rc.right_lv h0]; exact ⟨⟨by show 1 ≤ R.r0 + R.h - c.2; omega, a2, by show c.2 + (R.r0 + R.h - c.2) ≤ h; omega, a4⟩, by show R.r0 + R.h - c.2 + R.w < _; omega⟩
theorem Rc.left_has {R : Rc} {c : Nat × Nat} (hc : R.ins c = true) {i j : Nat} : (R.left c).has i j ↔ R.has i j ∧ (if c.1 = 0 then j else i) < c.2 := by
  by_cases h0 : c.1 = 0
  · rw [Rc.ins_up h0] at hc; rw [Rc.left_up h0, if_pos h0]; unfold Rc.has; simp only; omega
  · rw [Rc.ins_lv h0] at hc; rw [Rc.left_lv h0, if_neg h0]; unfold Rc.has; simp only; omega
theorem Rc.right_has {R : Rc} {c : Nat × Nat} (hc : R.ins c = true) {i j : Nat} : (R.right c).has i j ↔ R.has i j ∧ c.2 ≤ (if c.1 = 0 then j else i) := by
  by_cases h0 : c.1 = 0
  · rw [Rc.ins_up h0] at hc; rw [Rc.right_up h0, if_pos h0]; unfold Rc.has; simp only; omega
  · rw [Rc.ins_lv h0] at hc; rw [Rc.right_lv h0, if_neg h0]; unfold Rc.has; simp only; omega
/-! # along first cuts -/
/-! # any cut will do -/
/-! # least depths, numbers of ways -/
/-! # rectangles that are whole rooms -/
structure Rc.Clo (R : Rc) (g : Nat → Nat → Nat) (h wd : Nat) : Prop where
  fit : R.Fit h wd
  clo : ∀ i j i' j', R.has i j → i' < h → j' < wd → g i' j' = g i j → R.has i' j'
theorem Rc.Clo.in_grid {R : Rc} {g : Nat → Nat → Nat} {h wd : Nat} (C : R.Clo g h wd) {i j : Nat} (hij : R.has i j) : i < h ∧ j < wd := by
  have := C.fit.hh; have := C.fit.hw; obtain ⟨_, _, _, _⟩ := hij; omega
theorem free_two {g : Nat → Nat → Nat} {h wd : Nat} (hg : RectG h wd g) {R : Rc} {c : Nat × Nat} (C : R.Clo g h wd) (hi : R.ins c = true) (hf : R.free g c = true) {i j i' j' : Nat} (h1 : (R.left c).has i j) (h2 : (R.right c).has i' j') : g i' j' ≠ g i j := by
  intro he
  rw [Rc.left_has hi] at h1
  rw [Rc.right_has hi] at h2
  obtain ⟨a1, a2⟩ := C.in_grid h1.1
  obtain ⟨b1, b2⟩ := C.in_grid h2.1
  obtain ⟨row, col, hi', wi, _, _, hr⟩ := hg i j a1 a2
  have q1 := (hr i j a1 a2).1 rfl
  have q2 := (hr i' j' b1 b2).1 he
  obtain ⟨u1, u2, u3, u4⟩ := h1.1
  obtain ⟨v1, v2, v3, v4⟩ := h2.1
  unfold InR at q1 q2
  by_cases h0 : c.1 = 0
  · rw [if_pos h0] at h1 h2
    rw [Rc.ins_up h0] at hi
    rw [Rc.free_up h0] at hf
    refine hf i u1 u2 (((hr i (c.2 - 1) a1 (by omega)).2 ?_).trans ((hr i c.2 a1 (by omega)).2 ?_).symm) <;> (unfold InR; omega)
  · rw [if_neg h0] at h1 h2
    rw [Rc.ins_lv h0] at hi
    rw [Rc.free_lv h0] at hf
    refine hf j u3 u4 (((hr (c.2 - 1) j (by omega) a2).2 ?_).trans ((hr c.2 j (by omega) a2).2 ?_).symm) <;> (unfold InR; omega)
theorem Rc.Clo.left {R : Rc} {g : Nat → Nat → Nat} {h wd : Nat} (hg : RectG h wd g) (C : R.Clo g h wd) {c : Nat × Nat} (hi : R.ins c = true) (hf : R.free g c = true) : (R.left c).Clo g h wd :=
  ⟨(Rc.fit_left C.fit hi).1, fun i j i' j' hij h1 h2 he => by
    have hb := C.clo i j i' j' ((Rc.left_has hi).1 hij).1 h1 h2 he
    by_cases hl : (if c.1 = 0 then j' else i') < c.2
    · exact (Rc.left_has hi).2 ⟨hb, hl⟩
    · exact absurd he (free_two hg C hi hf hij ((Rc.right_has hi).2 ⟨hb, by omega⟩))⟩
theorem Rc.Clo.right {R : Rc} {g : Nat → Nat → Nat} {h wd : Nat} (hg : RectG h wd g) (C : R.Clo g h wd) {c : Nat × Nat} (hi : R.ins c = true) (hf : R.free g c = true) : (R.right c).Clo g h wd :=
  ⟨(Rc.fit_right C.fit hi).1, fun i j i' j' hij h1 h2 he => by
    have hb := C.clo i j i' j' ((Rc.right_has hi).1 hij).1 h1 h2 he
    by_cases hl : (if c.1 = 0 then j' else i') < c.2
    · exact absurd he.symm (free_two hg C hi hf ((Rc.left_has hi).2 ⟨hb, hl⟩) hij)
    · exact (Rc.right_has hi).2 ⟨hb, by omega⟩⟩
/-- the rooms of a rectangle -/
def Rc.room (g : Nat → Nat → Nat) (R : Rc) (a : Nat) : Bool := (List.range R.h).any fun i => (List.range R.w).any fun j => decide (g (R.r0 + i) (R.c0 + j) = a)
def Rc.rooms (g : Nat → Nat → Nat) (r : Nat) (R : Rc) : List Nat := (List.range r).filter (R.room g)
end Go.Proofs.Ytpgcpmfemcfoaaa

/-
  Plans that are cut: parts of rooms with their boxes. Plain mathematics; no function of the program is named.
-/
namespace Go.Proofs.Ytpgcpmfemcfoaaa
open Go.RowKit

theorem filter_two {α : Type} (f : α → Nat) : ∀ (l : List α), (∀ x ∈ l, f x = 0 ∨ f x = 2) → (l.filter fun x => decide (f x = 0)).length + (l.filter fun x => decide (f x = 2)).length = l.length
  | [], _ => rfl
  | x :: l, h => by
    have ih := filter_two f l fun y hy => h y (List.mem_cons_of_mem _ hy)
    rcases h x List.mem_cons_self with e | e
    · rw [List.filter_cons, List.filter_cons, if_pos (by simp [e]), if_neg (by simp [e]), List.length_cons, List.length_cons]; omega
    · rw [List.filter_cons, List.filter_cons, if_neg (by simp [e]), if_pos (by simp [e]), List.length_cons, List.length_cons]; omega
/-! # bounds of depths and of ways -/
end Go.Proofs.Ytpgcpmfemcfoaaa

/-
  Merged texts: GuiE GuiF GuiG GuiH GuiI GuiJ.
-/
/-
  Parts of plans: what they are in memory, and where their rooms lie. (Walks.)
-/
namespace Go.Proofs.Ytpgcpmfemcfoaaa
open Go.RowKit
/-! # rooms that are put apart -/
def twoS (f : Nat → Nat) (l : List Nat) : List Nat := (l.filter fun a => decide (f a = 0)) ++ l.filter fun a => decide (f a = 2)
theorem twoS_len {f : Nat → Nat} {l : List Nat} (h : ∀ x ∈ l, f x = 0 ∨ f x = 2) : (twoS f l).length = l.length := by
  unfold twoS; rw [List.length_append]; exact filter_two f l h
theorem twoS_snoc (f : Nat → Nat) (l : List Nat) (x : Nat) (hx : f x = 0 ∨ f x = 2) : twoS f (l ++ [x]) = if f x = 0 then (l.filter fun a => decide (f a = 0)) ++ x :: (l.filter fun a => decide (f a = 2)) else twoS f l ++ [x] := by
  unfold twoS
  rw [List.filter_append, List.filter_append]
  rcases hx with h | h
  · rw [if_pos h]; simp [h]
  · rw [if_neg (by omega)]; simp [h]
def swapAt (L : List Nat) (j : Nat) : List Nat := (L.set j (L.getD (j - 1) 0)).set (j - 1) (L.getD j 0)
theorem swapAt_app (P : List Nat) (y x : Nat) (Q : List Nat) : swapAt (P ++ y :: x :: Q) (P.length + 1) = P ++ x :: y :: Q := by
  unfold swapAt
  rw [Nat.add_sub_cancel]
  have e1 : (P ++ y :: x :: Q).getD P.length 0 = y := by simp
  have e2 : (P ++ y :: x :: Q).getD (P.length + 1) 0 = x := by simp
  rw [e1, e2, List.set_append_right _ _ (by omega), List.set_append_right _ _ (by omega)]
  simp
/-- the first i rooms are put apart -/
def OutT (f : Nat → Nat) (L0 : List Nat) (i : Nat) (L : List Nat) : Prop := L = twoS f (L0.take i) ++ L0.drop i
/-- the next room goes ahead -/
def InT (f : Nat → Nat) (L0 : List Nat) (i j : Nat) (L : List Nat) : Prop :=
  ∃ P Q, L = P ++ L0.getD i 0 :: (Q ++ L0.drop (i + 1)) ∧ P.length = j ∧ P ++ Q = twoS f (L0.take i) ∧ ∀ y ∈ Q, f (L0.getD i 0) < f y
theorem take_mem {L0 : List Nat} {i x : Nat} (h : x ∈ L0.take i) : x ∈ L0 := List.mem_of_mem_take h
theorem OutT.start {f : Nat → Nat} {L0 : List Nat} (h2 : ∀ x ∈ L0, f x = 0 ∨ f x = 2) : OutT f L0 1 L0 := by
  unfold OutT
  cases L0 with
  | nil => rfl
  | cons a l =>
    have := twoS_snoc f [] a (h2 a List.mem_cons_self)
    rw [List.nil_append] at this
    show a :: l = twoS f [a] ++ l
    rw [this]
    split <;> rfl
theorem OutT.inner {f : Nat → Nat} {L0 L : List Nat} {i : Nat} (h2 : ∀ x ∈ L0, f x = 0 ∨ f x = 2) (h : OutT f L0 i L) (hi : i < L0.length) : InT f L0 i i L := by
  refine ⟨twoS f (L0.take i), [], ?_, ?_, List.append_nil _, fun y hy => by cases hy⟩
  · rw [h, List.drop_eq_getElem_cons hi, List.nil_append]; simp [hi]
  · rw [twoS_len (fun x hx => h2 x (take_mem hx)), List.length_take]; omega
theorem OutT.len {f : Nat → Nat} {L0 L : List Nat} {i : Nat} (h2 : ∀ x ∈ L0, f x = 0 ∨ f x = 2) (h : OutT f L0 i L) : L.length = L0.length := by
  rw [h, List.length_append, twoS_len (fun x hx => h2 x (take_mem hx)), List.length_take, List.length_drop]; omega
theorem InT.two {f : Nat → Nat} {L0 L : List Nat} {i m : Nat} (h : InT f L0 i (m + 1) L) : ∃ P y Q, L = P ++ y :: L0.getD i 0 :: (Q ++ L0.drop (i + 1)) ∧ P.length = m ∧ P ++ y :: Q = twoS f (L0.take i) ∧ (∀ y ∈ Q, f (L0.getD i 0) < f y) ∧ L.getD (m + 1) 0 = L0.getD i 0 ∧ L.getD m 0 = y := by
  obtain ⟨P, Q, rfl, h1, h3, h4⟩ := h
  obtain ⟨P', y, rfl⟩ : ∃ P' y, P = P' ++ [y] := by
    rcases List.eq_nil_or_concat P with rfl | ⟨P', y, e⟩
    · cases h1
    · exact ⟨P', y, by rw [e, List.concat_eq_append]⟩
  rw [List.length_append] at h1
  have hm : P'.length = m := by simp at h1; omega
  subst hm
  refine ⟨P', y, Q, by simp, rfl, by rw [← h3]; simp, h4, ?_, ?_⟩
  · simp
  · simp
theorem InT.swap {f : Nat → Nat} {L0 L : List Nat} {i m : Nat} (h : InT f L0 i (m + 1) L) (hf : f (L.getD (m + 1) 0) < f (L.getD m 0)) : InT f L0 i m (swapAt L (m + 1)) := by
  obtain ⟨P, y, Q, rfl, h1, h3, h4, h5, h6⟩ := h.two
  rw [h5, h6] at hf
  subst h1
  rw [swapAt_app]
  refine ⟨P, y :: Q, rfl, rfl, h3, fun z hz => ?_⟩
  rcases List.mem_cons.1 hz with rfl | hz
  · exact hf
  · exact h4 z hz
/-! # places as cells -/
def fldP (bx : Nat → Bx) (a k : Nat) : Nat := match k with | 0 => a | 1 => (bx a).row | 2 => (bx a).col | 3 => (bx a).high | _ => (bx a).wide
def plL (bx : Nat → Bx) (L : List Nat) : List Value := (List.range (5 * L.length)).map fun k => .int .i64 ((fldP bx (L.getD (k / 5) 0) (k % 5) : Nat) : Int)
end Go.Proofs.Ytpgcpmfemcfoaaa

/-
  Parts of plans: on which side of a line rooms lie; rooms are put apart. (Walks.)
-/
namespace Go.Proofs.Ytpgcpmfemcfoaaa
open Go.RowKit

def ctC (c : Nat × Nat) : Array Value := #[.int .i64 ((c.1 : Nat) : Int), .int .i64 ((c.2 : Nat) : Int)]
end Go.Proofs.Ytpgcpmfemcfoaaa

/-
  Parts of plans: rooms are put apart by an insertion sort. (Walks.)
-/
namespace Go.Proofs.Ytpgcpmfemcfoaaa
open Go.RowKit

end Go.Proofs.Ytpgcpmfemcfoaaa

/-
  Parts of plans: both parts that a cut leaves. (Walks.)
-/
namespace Go.Proofs.Ytpgcpmfemcfoaaa
open Go.RowKit

end Go.Proofs.Ytpgcpmfemcfoaaa

/-
  Parts of plans: their cuts. (Walks.)
-/
namespace Go.Proofs.Ytpgcpmfemcfoaaa
open Go.RowKit

def ctL (K : List (Nat × Nat)) : List Value := K.flatMap fun c => (ctC c).toList
/-- the state of the loop over lines -/
def CtSt (w : World) (K : List (Nat × Nat)) (ro : Option Addr) (rc : Nat) (wr : World) : Prop :=
  wr.ownsRow (w.heap.size + 1) 132 2 (.slice ro K.length rc) K.length (ctL K) ∧ HeldB wr w.heap.size 3 #[.int .i64 0, .int .i64 1] ∧ Below w.heap.size w wr
theorem CtSt.below {w : World} {K : List (Nat × Nat)} {ro : Option Addr} {rc : Nat} {wr w1 : World} (h : CtSt w K ro rc wr) (hb : Below wr.heap.size wr w1) : CtSt w K ro rc w1 :=
  ⟨ownsRow_below h.1 hb, h.2.1.below hb, below_step h.2.2 h.2.2.size hb⟩

end Go.Proofs.Ytpgcpmfemcfoaaa

/-
  Parts of plans: the first one without a cut. (Walks.)
-/
namespace Go.Proofs.Ytpgcpmfemcfoaaa
open Go.RowKit

/-- what is told of a part without a cut -/
def StkRet (o : Option Rc) (g : Nat → Nat → Nat) (r : Nat) (bx : Nat → Bx) (e : Ending) (w' : World) : Prop :=
  ∃ ro m rc, e = .returned (.slice ro m rc) ∧ (o = none → ro = none ∧ m = 0 ∧ rc = 0) ∧ ∀ S, o = some S → ∃ a, ro = some a ∧ m = (S.rooms g r).length ∧ CellsAt w' ro (plL bx (S.rooms g r))
theorem StkRet.below {o : Option Rc} {g : Nat → Nat → Nat} {r : Nat} {bx : Nat → Bx} {e : Ending} {w' w'' : World} (h : StkRet o g r bx e w') (hb : Below w'.heap.size w' w'') : StkRet o g r bx e w'' := by
  obtain ⟨ro, m, rc, h1, h2, h3⟩ := h
  refine ⟨ro, m, rc, h1, h2, fun S hS => ?_⟩
  obtain ⟨a, ha, hm, hc⟩ := h3 S hS
  exact ⟨a, ha, hm, hc.below hb⟩
end Go.Proofs.Ytpgcpmfemcfoaaa
