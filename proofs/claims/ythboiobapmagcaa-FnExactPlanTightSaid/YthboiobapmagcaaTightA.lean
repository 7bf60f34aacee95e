/-
  Plans made tight: the program's answer. (Walk.)
-/
import Derived.Test.YthboiobapmagcaaSpecT
import Derived.Test.YthboiobapmagcaaImplT
import Derived.Test.YthboiobapmagcaaWideA
namespace Go.Proofs.Ythboiobapmagcaa
open Go.RowKit

theorem tight_few (p : List ByteArray) : (orNone (planB p) (tightB p)).length ≤ 1048576 := by
  cases h : planB p
  · rw [orNone_no rfl]; exact Nat.zero_le _
  · rw [orNone_yes rfl, (tight_math h).2, rowsT_len]
    have := keepL_le (srG (gridG p)) p.length
    have := (planP_of h).grid.h6
    omega

set_option maxHeartbeats 400000 in
theorem implTight_any (ao : Option Addr) (cap : Nat) (p : List ByteArray) (w : World) (hl : p.length ≤ 1048576) (hs : ∀ s ∈ p, s.size ≤ 1048576) (hc : CellsAt w ao (p.map Value.string)) :
    Calls Try.prog 35 #[.slice ao p.length cap] w fun e w' => TextsRet w.heap.size (orNone (planB p) (tightB p)) (planB p) e w' ∧ Below w.heap.size w w' := by
  obtain ⟨nr, hnr⟩ : ∃ nr, (keepL (srG (gridG p)) p.length).length = nr := ⟨_, rfl⟩
  obtain ⟨nc, hnc⟩ : ∃ nc, (keepL (scG (gridG p) p.length) (wideB p)).length = nc := ⟨_, rfl⟩
  obtain ⟨m, hm⟩ : ∃ m, tightM (gridG p) (srG (gridG p)) (scG (gridG p) p.length) p.length (wideB p) = m := ⟨_, rfl⟩
  have hT : planB p = (readOk p && drawOk nr nc m) ∧ orNone (planB p) (tightB p) = orNone (readOk p && drawOk nr nc m) (rowsT nr nc (renG nr nc m)) := by
    rw [readOk_eq]
    cases hp : planB p
    · rw [Bool.false_and, orNone_no rfl, orNone_no rfl]
      exact ⟨rfl, rfl⟩
    · have := tight_math hp
      rw [hnr, hnc, hm] at this
      rw [this.1, this.2]; exact ⟨rfl, rfl⟩
  have HM := Lib.hid (fun (hr : readOk p = true) (W : World) => by
    have hd := nameDraw_dims (ok_of_read hr)
    have hg := read_dims hr
    have := tight_any p.length (wideB p) (gridR p) (gridG p) W hd.2.1.1 hg.1 hd.2.2.1.1 hg.2.1 (fun i j => Nat.lt_of_le_of_lt (hg.2.2 i j) (by omega))
    rw [hnr, hnc, hm, ← readC_ok hr] at this
    exact this)
  clear hnr hnc hm
  have HR := Lib.hid (fun w => redraw_any 73 #[] (drawOk nr nc m) (drawC nr nc m) nr nc (markF nr nc m).length (renG nr nc m) ao cap p w hl hs)
  rw [hT.2, hT.1]
  clear hT
  go_enter Try.func35, Try.ntmps35
  go_wp2_with (go_at_call 68; refine (HR.out _ hc Try.call73 (fun hr W _ => HM.out hr W) drawC_ok).mono ?_; rintro e w1 ⟨⟨ro, rc, rfl, hown1⟩, hb1⟩)
  go_ret2
  exact ⟨⟨ro, rc, rfl, hown1⟩, hb1⟩

end Go.Proofs.Ythboiobapmagcaa
