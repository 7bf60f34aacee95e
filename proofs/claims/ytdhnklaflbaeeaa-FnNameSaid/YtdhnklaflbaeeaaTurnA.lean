
/-
  Plans turned, read backwards, with rows and columns exchanged: the model's answers and the program's. (Walks, and the mathematics of it.)
-/
import Derived.Test.YtdhnklaflbaeeaaImplJ
import Derived.Test.YtdhnklaflbaeeaaSpecF
namespace Go.Proofs.Ytdhnklaflbaeeaa
open Go.RowKit

theorem mat_rows {n m : Nat} {b : Nat → Nat → UInt8} {g : Nat → Nat → Nat} (he : ∀ i j, i < n → j < m → b i j = UInt8.ofNat (97 + g i j)) : matB n m b = rowsT n m g := by
  unfold matB rowsT
  refine List.map_congr_left fun i hi => ?_
  rw [List.mem_range] at hi
  congr 2
  unfold rowM rowT
  refine List.map_congr_left fun j hj => ?_
  rw [List.mem_range] at hj
  exact he i j hi hj

theorem GridP.letter {p : List ByteArray} (hp : GridP p) {i j : Nat} (hi : i < p.length) (hj : j < wideB p) : byteAt p i j = UInt8.ofNat (97 + markN p i j) := by
  have := (hp.byte hi hj).1
  rw [← this]
  simp

theorem drawOk_of {h wd R : Nat} {m : Nat → Nat → Nat} (h1 : 1 ≤ h) (h6 : h ≤ 6) (w1 : 1 ≤ wd) (w6 : wd ≤ 6) (hR : R ≤ 9) (hlt : ∀ i j, i < h → j < wd → m i j < R) (hr : RectG h wd m) : drawOk h wd m = true :=
  drawOk_iff.2 ⟨⟨h1, h6⟩, ⟨w1, w6⟩, Nat.le_trans (markF_few hlt) hR, hr⟩

theorem turn_math {p : List ByteArray} (h : planB p = true) : drawOk (wideB p) p.length (fun i j => gridG p (p.length - 1 - j) i) = true ∧ namesB (turnB p) = rowsT (wideB p) p.length (renG (wideB p) p.length (fun i j => gridG p (p.length - 1 - j) i)) := by
  have hp := planP_of h
  have h1 := hp.grid.h1; have h6 := hp.grid.h6; have w1 := hp.grid.w1; have w6 := hp.grid.w6
  have he : ∀ i j, i < (wideB p) → j < p.length → (fun i j => markN p (p.length - 1 - j) i) i j = (fun i j => gridG p (p.length - 1 - j) i) i j := fun i j hi hj => hp.mark _ _ (by omega) (by omega)
  have hlt : ∀ i j, i < (wideB p) → j < p.length → (fun i j => markN p (p.length - 1 - j) i) i j < gridR p := fun i j hi hj => hp.lt (by omega) (by omega)
  have hrect : RectG (wideB p) p.length (fun i j => markN p (p.length - 1 - j) i) := (hp.rect.pull (pull_back _) (pull_id _)).swap
  have hd := drawOk_of (by omega) (by omega) (by omega) (by omega) hp.few hlt hrect
  have ht : turnB p = rowsT (wideB p) p.length (fun i j => markN p (p.length - 1 - j) i) := mat_rows fun i j hi hj => hp.grid.letter (by omega) (by omega)
  refine ⟨by rw [← drawOk_congr he]; exact hd, ?_⟩
  rw [ht, names_rows (by omega) (by omega) (by omega) (by omega) (fun i j hi hj => Nat.lt_of_lt_of_le (hlt i j hi hj) (by have := hp.few; omega)), renG_congr he]

theorem specTurn_any (ao : Option Addr) (cap : Nat) (p : List ByteArray) (w : World) (hl : p.length ≤ 1048576) (hs : ∀ s ∈ p, s.size ≤ 1048576) (hc : CellsAt w ao (p.map Value.string)) :
    Calls Try.prog 37 #[.slice ao p.length cap] w fun e w' => TextsRet w.heap.size (orNone (planB p) (namesB (turnB p))) (planB p) e w' ∧ Below w.heap.size w w' := by
  cases hp : planB p
  · rw [orNone_no rfl]
    go_enter Try.func37, Try.ntmps37
    go_wp2_with (first
      | (go_at_call 21; refine (specPlanIn_any _ _ _ _ hl hs hc).mono ?_; rw [hp]; rintro e w1 ⟨rfl, hb1⟩)
      | (go_at_call 98; refine (l1None_any _).mono ?_; rintro e w2 ⟨⟨ro, rc, rfl, hown2⟩, hb2⟩))
    go_ret2
    exact ⟨⟨_, _, rfl, ownsRow_base hown2 hb1.size⟩, below_step hb1 hb1.size hb2⟩
  · rw [orNone_yes rfl]
    have hg := (planP_of hp).grid
    have h1 := hg.h1; have h6 := hg.h6; have w6 := hg.w6; have hev := hg.even
    have HLN := Lib.hid (show (namesB (turnB p)).length = (wideB p) by rw [namesB_len]; unfold turnB; rw [matB_len])
    have HEV := Lib.hid hev
    clear hg hev
    go_enter Try.func37, Try.ntmps37
    go_wp2_with (first
      | (go_at_call 21; refine (specPlanIn_any _ _ _ _ hl hs hc).mono ?_; rw [hp]; rintro e w1 ⟨rfl, hb1⟩; have hc1 := hc.below hb1)
      | (go_at_call 99; refine (l1Turn_any _ _ _ _ h1 h6 w6 HEV.out hc1).mono ?_; rintro e w2 ⟨ro, rc, rfl, hown2, hb2⟩))
    go_ret2
    exact ⟨⟨ro, rc, by rw [HLN.out]; rfl, by rw [HLN.out]; exact ownsRow_base hown2 hb1.size⟩, below_step hb1 hb1.size hb2⟩


theorem implTurn_any (ao : Option Addr) (cap : Nat) (p : List ByteArray) (w : World) (hl : p.length ≤ 1048576) (hs : ∀ s ∈ p, s.size ≤ 1048576) (hc : CellsAt w ao (p.map Value.string)) :
    Calls Try.prog 23 #[.slice ao p.length cap] w fun e w' => TextsRet w.heap.size (orNone (planB p) (namesB (turnB p))) (planB p) e w' ∧ Below w.heap.size w w' := by
  have hT : orNone (planB p) (namesB (turnB p)) = orNone (readOk p && drawOk (wideB p) p.length (fun i j => gridG p (p.length - 1 - j) i)) (rowsT (wideB p) p.length (renG (wideB p) p.length (fun i j => gridG p (p.length - 1 - j) i))) ∧ planB p = (readOk p && drawOk (wideB p) p.length (fun i j => gridG p (p.length - 1 - j) i)) := by
    rw [readOk_eq]
    cases hp : planB p
    · exact ⟨rfl, rfl⟩
    · rw [(turn_math hp).1, (turn_math hp).2]; exact ⟨rfl, rfl⟩
  have HR := Lib.hid (fun w => redraw_any 87 #[] (drawOk (wideB p) p.length (fun i j => gridG p (p.length - 1 - j) i)) (drawC (wideB p) p.length (fun i j => gridG p (p.length - 1 - j) i)) ((wideB p)) (p.length) (markF ((wideB p)) (p.length) (fun i j => gridG p (p.length - 1 - j) i)).length (renG ((wideB p)) (p.length) (fun i j => gridG p (p.length - 1 - j) i)) ao cap p w hl hs)
  have HM := Lib.hid (fun (hr : readOk p = true) (W : World) => by
    have hd := nameDraw_dims (show nameDraw p = true by unfold readOk at hr; rw [Bool.and_eq_true] at hr; exact hr.1)
    have := turn_any p.length (wideB p) (gridR p) (gridG p) W hd.2.1.2 hd.2.2.1.2 (fun i j => Nat.lt_of_le_of_lt (gridG_le (show nameDraw p = true by unfold readOk at hr; rw [Bool.and_eq_true] at hr; exact hr.1) i j) (by omega))
    rw [← readC_ok hr] at this
    exact this)
  rw [hT.1, hT.2]
  clear hT
  go_enter Try.func23, Try.ntmps23
  go_wp2_with (go_at_call 86; refine (HR.out _ hc Try.call87 (fun hr W _ => HM.out hr W) drawC_ok).mono ?_; rintro e w1 ⟨⟨ro, rc, rfl, hown1⟩, hb1⟩)
  go_ret2
  exact ⟨⟨ro, rc, rfl, hown1⟩, hb1⟩

theorem turn_few (p : List ByteArray) : (orNone (planB p) (namesB (turnB p))).length ≤ 1048576 := by
  cases h : planB p
  · rw [orNone_no rfl]; exact Nat.zero_le _
  · rw [orNone_yes rfl, namesB_len]
    unfold turnB
    rw [matB_len]
    have hg := (planP_of h).grid
    have := hg.h6; have := hg.w6
    omega

theorem flip_math {p : List ByteArray} (h : planB p = true) : drawOk p.length (wideB p) (fun i j => gridG p i (wideB p - 1 - j)) = true ∧ namesB (flipB p) = rowsT p.length (wideB p) (renG p.length (wideB p) (fun i j => gridG p i (wideB p - 1 - j))) := by
  have hp := planP_of h
  have h1 := hp.grid.h1; have h6 := hp.grid.h6; have w1 := hp.grid.w1; have w6 := hp.grid.w6
  have he : ∀ i j, i < p.length → j < (wideB p) → (fun i j => markN p i (wideB p - 1 - j)) i j = (fun i j => gridG p i (wideB p - 1 - j)) i j := fun i j hi hj => hp.mark _ _ (by omega) (by omega)
  have hlt : ∀ i j, i < p.length → j < (wideB p) → (fun i j => markN p i (wideB p - 1 - j)) i j < gridR p := fun i j hi hj => hp.lt (by omega) (by omega)
  have hrect : RectG p.length (wideB p) (fun i j => markN p i (wideB p - 1 - j)) := hp.rect.pull (pull_id _) (pull_back _)
  have hd := drawOk_of (by omega) (by omega) (by omega) (by omega) hp.few hlt hrect
  have ht : flipB p = rowsT p.length (wideB p) (fun i j => markN p i (wideB p - 1 - j)) := mat_rows fun i j hi hj => hp.grid.letter (by omega) (by omega)
  refine ⟨by rw [← drawOk_congr he]; exact hd, ?_⟩
  rw [ht, names_rows (by omega) (by omega) (by omega) (by omega) (fun i j hi hj => Nat.lt_of_lt_of_le (hlt i j hi hj) (by have := hp.few; omega)), renG_congr he]

theorem specFlip_any (ao : Option Addr) (cap : Nat) (p : List ByteArray) (w : World) (hl : p.length ≤ 1048576) (hs : ∀ s ∈ p, s.size ≤ 1048576) (hc : CellsAt w ao (p.map Value.string)) :
    Calls Try.prog 41 #[.slice ao p.length cap] w fun e w' => TextsRet w.heap.size (orNone (planB p) (namesB (flipB p))) (planB p) e w' ∧ Below w.heap.size w w' := by
  cases hp : planB p
  · rw [orNone_no rfl]
    go_enter Try.func41, Try.ntmps41
    go_wp2_with (first
      | (go_at_call 21; refine (specPlanIn_any _ _ _ _ hl hs hc).mono ?_; rw [hp]; rintro e w1 ⟨rfl, hb1⟩)
      | (go_at_call 98; refine (l1None_any _).mono ?_; rintro e w2 ⟨⟨ro, rc, rfl, hown2⟩, hb2⟩))
    go_ret2
    exact ⟨⟨_, _, rfl, ownsRow_base hown2 hb1.size⟩, below_step hb1 hb1.size hb2⟩
  · rw [orNone_yes rfl]
    have hg := (planP_of hp).grid
    have h1 := hg.h1; have h6 := hg.h6; have w6 := hg.w6; have hev := hg.even
    have HLN := Lib.hid (show (namesB (flipB p)).length = p.length by rw [namesB_len]; unfold flipB; rw [matB_len])
    have HEV := Lib.hid hev
    clear hg hev
    go_enter Try.func41, Try.ntmps41
    go_wp2_with (first
      | (go_at_call 21; refine (specPlanIn_any _ _ _ _ hl hs hc).mono ?_; rw [hp]; rintro e w1 ⟨rfl, hb1⟩; have hc1 := hc.below hb1)
      | (go_at_call 100; refine (l1Flip_any _ _ _ _  h6 w6 HEV.out hc1).mono ?_; rintro e w2 ⟨ro, rc, rfl, hown2, hb2⟩))
    go_ret2
    exact ⟨⟨ro, rc, by rw [HLN.out]; rfl, by rw [HLN.out]; exact ownsRow_base hown2 hb1.size⟩, below_step hb1 hb1.size hb2⟩


theorem implFlip_any (ao : Option Addr) (cap : Nat) (p : List ByteArray) (w : World) (hl : p.length ≤ 1048576) (hs : ∀ s ∈ p, s.size ≤ 1048576) (hc : CellsAt w ao (p.map Value.string)) :
    Calls Try.prog 24 #[.slice ao p.length cap] w fun e w' => TextsRet w.heap.size (orNone (planB p) (namesB (flipB p))) (planB p) e w' ∧ Below w.heap.size w w' := by
  have hT : orNone (planB p) (namesB (flipB p)) = orNone (readOk p && drawOk p.length (wideB p) (fun i j => gridG p i (wideB p - 1 - j))) (rowsT p.length (wideB p) (renG p.length (wideB p) (fun i j => gridG p i (wideB p - 1 - j)))) ∧ planB p = (readOk p && drawOk p.length (wideB p) (fun i j => gridG p i (wideB p - 1 - j))) := by
    rw [readOk_eq]
    cases hp : planB p
    · exact ⟨rfl, rfl⟩
    · rw [(flip_math hp).1, (flip_math hp).2]; exact ⟨rfl, rfl⟩
  have HR := Lib.hid (fun w => redraw_any 88 #[] (drawOk p.length (wideB p) (fun i j => gridG p i (wideB p - 1 - j))) (drawC p.length (wideB p) (fun i j => gridG p i (wideB p - 1 - j))) (p.length) ((wideB p)) (markF (p.length) ((wideB p)) (fun i j => gridG p i (wideB p - 1 - j))).length (renG (p.length) ((wideB p)) (fun i j => gridG p i (wideB p - 1 - j))) ao cap p w hl hs)
  have HM := Lib.hid (fun (hr : readOk p = true) (W : World) => by
    have hd := nameDraw_dims (show nameDraw p = true by unfold readOk at hr; rw [Bool.and_eq_true] at hr; exact hr.1)
    have := flip_any p.length (wideB p) (gridR p) (gridG p) W hd.2.1.2 hd.2.2.1.2 (fun i j => Nat.lt_of_le_of_lt (gridG_le (show nameDraw p = true by unfold readOk at hr; rw [Bool.and_eq_true] at hr; exact hr.1) i j) (by omega))
    rw [← readC_ok hr] at this
    exact this)
  rw [hT.1, hT.2]
  clear hT
  go_enter Try.func24, Try.ntmps24
  go_wp2_with (go_at_call 86; refine (HR.out _ hc Try.call88 (fun hr W _ => HM.out hr W) drawC_ok).mono ?_; rintro e w1 ⟨⟨ro, rc, rfl, hown1⟩, hb1⟩)
  go_ret2
  exact ⟨⟨ro, rc, rfl, hown1⟩, hb1⟩

theorem flip_few (p : List ByteArray) : (orNone (planB p) (namesB (flipB p))).length ≤ 1048576 := by
  cases h : planB p
  · rw [orNone_no rfl]; exact Nat.zero_le _
  · rw [orNone_yes rfl, namesB_len]
    unfold flipB
    rw [matB_len]
    have hg := (planP_of h).grid
    have := hg.h6; have := hg.w6
    omega

theorem trans_math {p : List ByteArray} (h : planB p = true) : drawOk (wideB p) p.length (fun i j => gridG p j i) = true ∧ namesB (transB p) = rowsT (wideB p) p.length (renG (wideB p) p.length (fun i j => gridG p j i)) := by
  have hp := planP_of h
  have h1 := hp.grid.h1; have h6 := hp.grid.h6; have w1 := hp.grid.w1; have w6 := hp.grid.w6
  have he : ∀ i j, i < (wideB p) → j < p.length → (fun i j => markN p j i) i j = (fun i j => gridG p j i) i j := fun i j hi hj => hp.mark _ _ (by omega) (by omega)
  have hlt : ∀ i j, i < (wideB p) → j < p.length → (fun i j => markN p j i) i j < gridR p := fun i j hi hj => hp.lt (by omega) (by omega)
  have hrect : RectG (wideB p) p.length (fun i j => markN p j i) := hp.rect.swap
  have hd := drawOk_of (by omega) (by omega) (by omega) (by omega) hp.few hlt hrect
  have ht : transB p = rowsT (wideB p) p.length (fun i j => markN p j i) := mat_rows fun i j hi hj => hp.grid.letter (by omega) (by omega)
  refine ⟨by rw [← drawOk_congr he]; exact hd, ?_⟩
  rw [ht, names_rows (by omega) (by omega) (by omega) (by omega) (fun i j hi hj => Nat.lt_of_lt_of_le (hlt i j hi hj) (by have := hp.few; omega)), renG_congr he]

theorem specTrans_any (ao : Option Addr) (cap : Nat) (p : List ByteArray) (w : World) (hl : p.length ≤ 1048576) (hs : ∀ s ∈ p, s.size ≤ 1048576) (hc : CellsAt w ao (p.map Value.string)) :
    Calls Try.prog 62 #[.slice ao p.length cap] w fun e w' => TextsRet w.heap.size (orNone (planB p) (namesB (transB p))) (planB p) e w' ∧ Below w.heap.size w w' := by
  cases hp : planB p
  · rw [orNone_no rfl]
    go_enter Try.func62, Try.ntmps62
    go_wp2_with (first
      | (go_at_call 21; refine (specPlanIn_any _ _ _ _ hl hs hc).mono ?_; rw [hp]; rintro e w1 ⟨rfl, hb1⟩)
      | (go_at_call 98; refine (l1None_any _).mono ?_; rintro e w2 ⟨⟨ro, rc, rfl, hown2⟩, hb2⟩))
    go_ret2
    exact ⟨⟨_, _, rfl, ownsRow_base hown2 hb1.size⟩, below_step hb1 hb1.size hb2⟩
  · rw [orNone_yes rfl]
    have hg := (planP_of hp).grid
    have h1 := hg.h1; have h6 := hg.h6; have w6 := hg.w6; have hev := hg.even
    have HLN := Lib.hid (show (namesB (transB p)).length = (wideB p) by rw [namesB_len]; unfold transB; rw [matB_len])
    have HEV := Lib.hid hev
    clear hg hev
    go_enter Try.func62, Try.ntmps62
    have HNA := Lib.hid (fun (ao : Option Addr) (cap : Nat) (w : World) => l1Names_any ao cap (transB p) w (by unfold transB; rw [matB_len]; exact w6) (fun s hs => by unfold transB at hs; rw [matB_size s hs]; exact h6))
    have hln : (transB p).length = wideB p := by unfold transB; rw [matB_len]
    rw [hln] at HNA
    clear hln
    go_wp2_with (first
      | (go_at_call 21; refine (specPlanIn_any _ _ _ _ hl hs hc).mono ?_; rw [hp]; rintro e w1 ⟨rfl, hb1⟩; have hc1 := hc.below hb1)
      | (go_at_call 106; refine (l1Trans_any _ _ _ _ _ rfl h1 (by omega) (by omega) HEV.out hc1).mono ?_; rintro e w2 ⟨ro, rc, rfl, hown2, hb2⟩; have hc2 := owns_cells hown2)
      | (go_at_call 80; refine (HNA.out _ _ _ hc2).mono ?_; rintro e w3 ⟨ro3, rc3, rfl, hown3, hb3⟩))
    have hb12 := below_step hb1 hb1.size hb2
    go_ret2
    exact ⟨⟨ro3, rc3, by rw [HLN.out]; rfl, by rw [HLN.out]; exact ownsRow_base hown3 hb12.size⟩, below_step hb12 hb12.size hb3⟩


theorem implTrans_any (ao : Option Addr) (cap : Nat) (p : List ByteArray) (w : World) (hl : p.length ≤ 1048576) (hs : ∀ s ∈ p, s.size ≤ 1048576) (hc : CellsAt w ao (p.map Value.string)) :
    Calls Try.prog 54 #[.slice ao p.length cap] w fun e w' => TextsRet w.heap.size (orNone (planB p) (namesB (transB p))) (planB p) e w' ∧ Below w.heap.size w w' := by
  have hT : orNone (planB p) (namesB (transB p)) = orNone (readOk p && drawOk (wideB p) p.length (fun i j => gridG p j i)) (rowsT (wideB p) p.length (renG (wideB p) p.length (fun i j => gridG p j i))) ∧ planB p = (readOk p && drawOk (wideB p) p.length (fun i j => gridG p j i)) := by
    rw [readOk_eq]
    cases hp : planB p
    · exact ⟨rfl, rfl⟩
    · rw [(trans_math hp).1, (trans_math hp).2]; exact ⟨rfl, rfl⟩
  have HR := Lib.hid (fun w => redraw_any 113 #[] (drawOk (wideB p) p.length (fun i j => gridG p j i)) (drawC (wideB p) p.length (fun i j => gridG p j i)) ((wideB p)) (p.length) (markF ((wideB p)) (p.length) (fun i j => gridG p j i)).length (renG ((wideB p)) (p.length) (fun i j => gridG p j i)) ao cap p w hl hs)
  have HM := Lib.hid (fun (hr : readOk p = true) (W : World) => by
    have hd := nameDraw_dims (show nameDraw p = true by unfold readOk at hr; rw [Bool.and_eq_true] at hr; exact hr.1)
    have := trans_any p.length (wideB p) (gridR p) (gridG p) W hd.2.1.2 hd.2.2.1.2 (fun i j => Nat.lt_of_le_of_lt (gridG_le (show nameDraw p = true by unfold readOk at hr; rw [Bool.and_eq_true] at hr; exact hr.1) i j) (by omega))
    rw [← readC_ok hr] at this
    exact this)
  rw [hT.1, hT.2]
  clear hT
  go_enter Try.func54, Try.ntmps54
  go_wp2_with (go_at_call 86; refine (HR.out _ hc Try.call113 (fun hr W _ => HM.out hr W) drawC_ok).mono ?_; rintro e w1 ⟨⟨ro, rc, rfl, hown1⟩, hb1⟩)
  go_ret2
  exact ⟨⟨ro, rc, rfl, hown1⟩, hb1⟩

theorem trans_few (p : List ByteArray) : (orNone (planB p) (namesB (transB p))).length ≤ 1048576 := by
  cases h : planB p
  · rw [orNone_no rfl]; exact Nat.zero_le _
  · rw [orNone_yes rfl, namesB_len]
    unfold transB
    rw [matB_len]
    have hg := (planP_of h).grid
    have := hg.h6; have := hg.w6
    omega

end Go.Proofs.Ytdhnklaflbaeeaa
