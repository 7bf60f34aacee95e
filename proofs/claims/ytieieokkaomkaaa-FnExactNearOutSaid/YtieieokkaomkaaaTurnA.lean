
/-
  Plans turned, read backwards, with rows and columns exchanged: the model's answers and the program's. (Walks, and the mathematics of it.)
-/
import Derived.Test.YtieieokkaomkaaaImplJ
import Derived.Test.YtieieokkaomkaaaSpecF
namespace Go.Proofs.Ytieieokkaomkaaa
open Go.RowKit

theorem mat_rows {n m : Nat} {b : Nat → Nat → UInt8} {g : Nat → Nat → Nat} (he : ∀ i j, i < n → j < m → b i j = UInt8.ofNat (97 + g i j)) : matB n m b = rowsT n m g := by
  unfold matB rowsT
  refine List.map_congr_left fun i hi => ?_
  rw [List.mem_range] at hi
  congr 2
  unfold rowM rowT
  refine List.map_congr_left fun j hj => ?_
  rw [List.mem_range] at hj
  exact he i j hi hj

theorem GridP.letter {p : List ByteArray} (hp : GridP p) {i j : Nat} (hi : i < p.length) (hj : j < wideB p) : byteAt p i j = UInt8.ofNat (97 + markN p i j) := by
  have := (hp.byte hi hj).1
  rw [← this]
  simp

theorem drawOk_of {h wd R : Nat} {m : Nat → Nat → Nat} (h1 : 1 ≤ h) (h6 : h ≤ 6) (w1 : 1 ≤ wd) (w6 : wd ≤ 6) (hR : R ≤ 9) (hlt : ∀ i j, i < h → j < wd → m i j < R) (hr : RectG h wd m) : drawOk h wd m = true :=
  drawOk_iff.2 ⟨⟨h1, h6⟩, ⟨w1, w6⟩, Nat.le_trans (markF_few hlt) hR, hr⟩

theorem turn_math {p : List ByteArray} (h : planB p = true) : drawOk (wideB p) p.length (fun i j => gridG p (p.length - 1 - j) i) = true ∧ namesB (turnB p) = rowsT (wideB p) p.length (renG (wideB p) p.length (fun i j => gridG p (p.length - 1 - j) i)) := by
  have hp := planP_of h
  have h1 := hp.grid.h1; have h6 := hp.grid.h6; have w1 := hp.grid.w1; have w6 := hp.grid.w6
  have he : ∀ i j, i < (wideB p) → j < p.length → (fun i j => markN p (p.length - 1 - j) i) i j = (fun i j => gridG p (p.length - 1 - j) i) i j := fun i j hi hj => hp.mark _ _ (by omega) (by omega)
  have hlt : ∀ i j, i < (wideB p) → j < p.length → (fun i j => markN p (p.length - 1 - j) i) i j < gridR p := fun i j hi hj => hp.lt (by omega) (by omega)
  have hrect : RectG (wideB p) p.length (fun i j => markN p (p.length - 1 - j) i) := (hp.rect.pull (pull_back _) (pull_id _)).swap
  have hd := drawOk_of (by omega) (by omega) (by omega) (by omega) hp.few hlt hrect
  have ht : turnB p = rowsT (wideB p) p.length (fun i j => markN p (p.length - 1 - j) i) := mat_rows fun i j hi hj => hp.grid.letter (by omega) (by omega)
  refine ⟨by rw [← drawOk_congr he]; exact hd, ?_⟩
  rw [ht, names_rows (by omega) (by omega) (by omega) (by omega) (fun i j hi hj => Nat.lt_of_lt_of_le (hlt i j hi hj) (by have := hp.few; omega)), renG_congr he]

theorem turn_few (p : List ByteArray) : (orNone (planB p) (namesB (turnB p))).length ≤ 1048576 := by
  cases h : planB p
  · rw [orNone_no rfl]; exact Nat.zero_le _
  · rw [orNone_yes rfl, namesB_len]
    unfold turnB
    rw [matB_len]
    have hg := (planP_of h).grid
    have := hg.h6; have := hg.w6
    omega

theorem flip_math {p : List ByteArray} (h : planB p = true) : drawOk p.length (wideB p) (fun i j => gridG p i (wideB p - 1 - j)) = true ∧ namesB (flipB p) = rowsT p.length (wideB p) (renG p.length (wideB p) (fun i j => gridG p i (wideB p - 1 - j))) := by
  have hp := planP_of h
  have h1 := hp.grid.h1; have h6 := hp.grid.h6; have w1 := hp.grid.w1; have w6 := hp.grid.w6
  have he : ∀ i j, i < p.length → j < (wideB p) → (fun i j => markN p i (wideB p - 1 - j)) i j = (fun i j => gridG p i (wideB p - 1 - j)) i j := fun i j hi hj => hp.mark _ _ (by omega) (by omega)
  have hlt : ∀ i j, i < p.length → j < (wideB p) → (fun i j => markN p i (wideB p - 1 - j)) i j < gridR p := fun i j hi hj => hp.lt (by omega) (by omega)
  have hrect : RectG p.length (wideB p) (fun i j => markN p i (wideB p - 1 - j)) := hp.rect.pull (pull_id _) (pull_back _)
  have hd := drawOk_of (by omega) (by omega) (by omega) (by omega) hp.few hlt hrect
  have ht : flipB p = rowsT p.length (wideB p) (fun i j => markN p i (wideB p - 1 - j)) := mat_rows fun i j hi hj => hp.grid.letter (by omega) (by omega)
  refine ⟨by rw [← drawOk_congr he]; exact hd, ?_⟩
  rw [ht, names_rows (by omega) (by omega) (by omega) (by omega) (fun i j hi hj => Nat.lt_of_lt_of_le (hlt i j hi hj) (by have := hp.few; omega)), renG_congr he]

theorem flip_few (p : List ByteArray) : (orNone (planB p) (namesB (flipB p))).length ≤ 1048576 := by
  cases h : planB p
  · rw [orNone_no rfl]; exact Nat.zero_le _
  · rw [orNone_yes rfl, namesB_len]
    unfold flipB
    rw [matB_len]
    have hg := (planP_of h).grid
    have := hg.h6; have := hg.w6
    omega

theorem trans_math {p : List ByteArray} (h : planB p = true) : drawOk (wideB p) p.length (fun i j => gridG p j i) = true ∧ namesB (transB p) = rowsT (wideB p) p.length (renG (wideB p) p.length (fun i j => gridG p j i)) := by
  have hp := planP_of h
  have h1 := hp.grid.h1; have h6 := hp.grid.h6; have w1 := hp.grid.w1; have w6 := hp.grid.w6
  have he : ∀ i j, i < (wideB p) → j < p.length → (fun i j => markN p j i) i j = (fun i j => gridG p j i) i j := fun i j hi hj => hp.mark _ _ (by omega) (by omega)
  have hlt : ∀ i j, i < (wideB p) → j < p.length → (fun i j => markN p j i) i j < gridR p := fun i j hi hj => hp.lt (by omega) (by omega)
  have hrect : RectG (wideB p) p.length (fun i j => markN p j i) := hp.rect.swap
  have hd := drawOk_of (by omega) (by omega) (by omega) (by omega) hp.few hlt hrect
  have ht : transB p = rowsT (wideB p) p.length (fun i j => markN p j i) := mat_rows fun i j hi hj => hp.grid.letter (by omega) (by omega)
  refine ⟨by rw [← drawOk_congr he]; exact hd, ?_⟩
  rw [ht, names_rows (by omega) (by omega) (by omega) (by omega) (fun i j hi hj => Nat.lt_of_lt_of_le (hlt i j hi hj) (by have := hp.few; omega)), renG_congr he]

theorem trans_few (p : List ByteArray) : (orNone (planB p) (namesB (transB p))).length ≤ 1048576 := by
  cases h : planB p
  · rw [orNone_no rfl]; exact Nat.zero_le _
  · rw [orNone_yes rfl, namesB_len]
    unfold transB
    rw [matB_len]
    have hg := (planP_of h).grid
    have := hg.h6; have := hg.w6
    omega

end Go.Proofs.Ytieieokkaomkaaa
