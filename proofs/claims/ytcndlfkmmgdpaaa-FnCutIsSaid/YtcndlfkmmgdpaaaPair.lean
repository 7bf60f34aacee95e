
/-
  Plans beside each other and below each other, and rows and columns exchanged. (Mathematics.)
-/
import Derived.Test.YtcndlfkmmgdpaaaIs
import Derived.Test.YtcndlfkmmgdpaaaBesideA
namespace Go.Proofs.Ytcndlfkmmgdpaaa
open Go.RowKit

theorem gridG_9 {p : List ByteArray} (h : planB p = true) {i j : Nat} (hi : i < p.length) (hj : j < wideB p) : gridG p i j < 9 := by
  have := (planP_of h).few; have := gridG_lt hi hj; omega

theorem bes_same {h wd wd' : Nat} {a a' b b' : Nat → Nat → Nat} (x : SameG h wd a a') (y : SameG h wd' b b') (ha : ∀ i j, i < h → j < wd → a i j < 9) (ha' : ∀ i j, i < h → j < wd → a' i j < 9) :
    SameG h (wd + wd') (besM wd a b) (besM wd a' b') := fun i j i' j' hi hj hi' hj' => by
  unfold besM
  by_cases h1 : j < wd <;> by_cases h2 : j' < wd
  · rw [if_pos h1, if_pos h1, if_pos h2, if_pos h2]; exact x i j i' j' hi h1 hi' h2
  · rw [if_pos h1, if_pos h1, if_neg h2, if_neg h2]
    have := ha i j hi h1; have := ha' i j hi h1
    constructor <;> intro h <;> omega
  · rw [if_neg h1, if_neg h1, if_pos h2, if_pos h2]
    have := ha i' j' hi' h2; have := ha' i' j' hi' h2
    constructor <;> intro h <;> omega
  · rw [if_neg h1, if_neg h1, if_neg h2, if_neg h2]
    have := y i (j - wd) i' (j' - wd) hi (by omega) hi' (by omega)
    omega
theorem is_beside {p q : List ByteArray} (h : besideOk p q = true) : planB p = true ∧ planB q = true ∧ p.length = q.length ∧ Is (namesB (besideT p q)) p.length (wideB p + wideB q) (besM (wideB p) (gridG p) (gridG q)) := by
  unfold besideOk at h
  simp only [Bool.and_eq_true, decide_eq_true_eq] at h
  obtain ⟨hp, hq, he, hd⟩ := h
  refine ⟨hp, hq, he, ?_⟩
  obtain ⟨m1, m2⟩ := beside_math hp hq he
  rw [hd] at m1
  rw [hd, ← m1, orNone_yes rfl, orNone_yes rfl] at m2
  rw [m2]
  refine is_rows m1.symm fun i j hi hj => ?_
  unfold besM
  split
  · rename_i h1; have := gridG_9 hp hi h1; omega
  · have := gridG_9 hq (i := i) (j := j - wideB p) (by omega) (by omega); omega
theorem is_under {p q : List ByteArray} (h : underOk p q = true) : planB p = true ∧ planB q = true ∧ wideB p = wideB q ∧ Is (namesB (underT p q)) (p.length + q.length) (wideB p) (undM p.length (gridG p) (gridG q)) := by
  unfold underOk at h
  simp only [Bool.and_eq_true, decide_eq_true_eq] at h
  obtain ⟨hp, hq, he, hd⟩ := h
  refine ⟨hp, hq, he, ?_⟩
  obtain ⟨m1, m2⟩ := under_math hp hq he
  rw [hd] at m1
  rw [hd, ← m1, orNone_yes rfl, orNone_yes rfl] at m2
  rw [m2]
  refine is_rows m1.symm fun i j hi hj => ?_
  unfold undM
  split
  · rename_i h1; have := gridG_9 hp h1 hj; omega
  · have := gridG_9 hq (i := i - p.length) (j := j) (by omega) (by omega); omega
theorem Is.draw {p : List ByteArray} {h wd : Nat} {m : Nat → Nat → Nat} (x : Is p h wd m) : drawOk h wd m = true := by
  have hd := x.dims
  have h1 := x.plan
  have hp := planP_of x.plan
  have e : drawOk h wd (gridG p) = drawOk h wd m := drawOk_pattern x.same
  rw [← e]
  have hg : ∀ i j, i < h → j < wd → renG h wd (gridG p) i j < 26 := fun i j hi hj => ren_lt (fun i j hi hj => gridG_26 h1 (by rw [x.len]; exact hi) (by rw [x.wide]; exact hj)) hi hj
  have ht := (Is.self h1).text
  rw [x.len, x.wide] at ht
  rw [ht, planB_rows hd.1 hd.2.1 hd.2.2.1 hd.2.2.2 hg] at h1
  exact h1

/-- rows and columns exchanged of plans below each other: beside each other -/
theorem under_trans {p q : List ByteArray} (h : underOk p q = true) : planB p = true ∧ planB q = true ∧ planB (namesB (underT p q)) = true ∧ besideOk (namesB (transB p)) (namesB (transB q)) = true ∧
    namesB (besideT (namesB (transB p)) (namesB (transB q))) = namesB (transB (namesB (underT p q))) := by
  obtain ⟨hp, hq, he, x⟩ := is_under h
  have xp := is_trans hp; have xq := is_trans hq
  have y := x.trans
  have hs : SameG (wideB p) (p.length + q.length) (fun i j => undM p.length (gridG p) (gridG q) j i) (besM p.length (gridG (namesB (transB p))) (gridG (namesB (transB q)))) := by
    refine bes_same (a := fun i j => gridG p j i) (b := fun i j => gridG q j i) xp.same (by rw [he]; exact xq.same) (fun i j hi hj => gridG_9 hp hj hi) (fun i j hi hj => gridG_9 xp.plan (by rw [xp.len]; exact hi) (by rw [xp.wide]; exact hj))
  have hb : besideOk (namesB (transB p)) (namesB (transB q)) = true := by
    unfold besideOk
    have hl : (namesB (transB p)).length = (namesB (transB q)).length := by rw [xp.len, xq.len, he]
    have hw := (beside_math xp.plan xq.plan hl).1
    rw [xp.plan, xq.plan, hw, xp.len, xp.wide, xq.wide, decide_eq_true (by rw [← xp.len]; exact hl), Bool.true_and, Bool.true_and, Bool.true_and, drawOk_pattern hs]
    exact y.draw
  refine ⟨hp, hq, x.plan, hb, ?_⟩
  obtain ⟨_, _, _, z⟩ := is_beside hb
  rw [xp.len, xp.wide, xq.wide] at z
  exact z.eq y (hs.symm)

end Go.Proofs.Ytcndlfkmmgdpaaa
