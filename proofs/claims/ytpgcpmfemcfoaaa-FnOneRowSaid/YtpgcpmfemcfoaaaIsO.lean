/-
  A plan is what a grid says: plans turned, read backwards, exchanged, and brought back. (Mathematics.)
-/
import Derived.Test.YtpgcpmfemcfoaaaTurnsO

namespace Go.Proofs.Ytpgcpmfemcfoaaa
open Go.RowKit

/-- a plan of so many rows and columns, whose cells are of one room just where a grid's are the same -/
structure Is (p : List ByteArray) (h wd : Nat) (m : Nat → Nat → Nat) : Prop where
  plan : planB p = true
  len : p.length = h
  wide : wideB p = wd
  same : SameG h wd m (gridG p)

theorem SameG.trans {h wd : Nat} {a b c : Nat → Nat → Nat} (x : SameG h wd a b) (y : SameG h wd b c) : SameG h wd a c := fun i j i' j' p q r s => (y i j i' j' p q r s).trans (x i j i' j' p q r s)
theorem SameG.refl (h wd : Nat) (a : Nat → Nat → Nat) : SameG h wd a a := fun _ _ _ _ _ _ _ _ => Iff.rfl
theorem plan_text {p : List ByteArray} (h : planB p = true) : p = rowsT p.length (wideB p) (gridG p) := by
  have hp := planP_of h
  rw [rows_names hp.grid, hp.names]
theorem gridG_ren (p : List ByteArray) : renG p.length (wideB p) (gridG p) = gridG p := renG_ren _ _ _
theorem Is.text {p : List ByteArray} {h wd : Nat} {m : Nat → Nat → Nat} (x : Is p h wd m) : p = rowsT h wd (renG h wd m) := by
  have := plan_text x.plan
  rw [← gridG_ren, x.len, x.wide] at this
  rw [this, renG_pattern x.same]
theorem Is.eq {p q : List ByteArray} {h wd : Nat} {m m' : Nat → Nat → Nat} (x : Is p h wd m) (y : Is q h wd m') (hs : SameG h wd m m') : p = q := by
  rw [x.text, y.text, renG_pattern hs]
theorem Is.of {p : List ByteArray} {h wd : Nat} {m m' : Nat → Nat → Nat} (x : Is p h wd m) (hs : SameG h wd m' m) : Is p h wd m' := ⟨x.plan, x.len, x.wide, hs.trans x.same⟩
/-- a drawn grid -/
theorem is_rows {h wd : Nat} {g : Nat → Nat → Nat} (hd : drawOk h wd g = true) (hg : ∀ i j, i < h → j < wd → g i j < 26) : Is (rowsT h wd (renG h wd g)) h wd g := by
  obtain ⟨⟨h1, h6⟩, ⟨w1, w6⟩, _, _⟩ := drawOk_iff.1 hd
  have hr : ∀ i j, i < h → j < wd → renG h wd g i j < 26 := fun i j hi hj => ren_lt hg hi hj
  refine ⟨by rw [planB_rows h1 h6 w1 w6 hr]; exact hd, by unfold rowsT; simp, rowsT_wide h1, ?_⟩
  rw [gridG_rows h1 hr, renG_ren]
  exact ren_pattern h wd g
theorem gridG_26 {p : List ByteArray} (h : planB p = true) {i j : Nat} (hi : i < p.length) (hj : j < wideB p) : gridG p i j < 26 := by
  have := (planP_of h).few; have := gridG_lt hi hj; omega

theorem is_trans {p : List ByteArray} (h : planB p = true) : Is (namesB (transB p)) (wideB p) p.length (fun i j => gridG p j i) := by
  rw [(trans_math h).2]
  exact is_rows (trans_math h).1 fun i j hi hj => gridG_26 h hj hi

theorem Is.trans {p : List ByteArray} {h wd : Nat} {m : Nat → Nat → Nat} (x : Is p h wd m) : Is (namesB (transB p)) wd h (fun i j => m j i) := by
  have y := is_trans x.plan
  rw [x.len, x.wide] at y
  exact y.of fun i j i' j' a b c d => x.same _ _ _ _ b a d c

theorem plan_small {p : List ByteArray} (h : planB p = true) : p.length ≤ 1048576 ∧ ∀ s ∈ p, s.size ≤ 1048576 := by
  have hg := (planP_of h).grid
  refine ⟨by have := hg.h6; omega, fun s hs => ?_⟩
  obtain ⟨i, hi, rfl⟩ := List.mem_iff_getElem.1 hs
  have := hg.even i hi
  have h6 := hg.w6
  rw [show p[i] = p.getD i ByteArray.empty by simp [hi]]
  omega
end Go.Proofs.Ytpgcpmfemcfoaaa
