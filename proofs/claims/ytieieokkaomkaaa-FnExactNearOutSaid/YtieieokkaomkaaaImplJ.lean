
/-
  The program turns a plan, reads it backwards, exchanges its rows and columns. (Walks.)
-/
import Derived.Test.YtieieokkaomkaaaImplI
namespace Go.Proofs.Ytieieokkaomkaaa
open Go.RowKit

theorem drawC_ok {h wd : Nat} {m : Nat → Nat → Nat} (hd : drawOk h wd m = true) : drawC h wd m = planC h wd (markF h wd m).length (renG h wd m) ∧ h ≤ 6 ∧ wd ≤ 6 ∧ ∀ i j, renG h wd m i j ≤ 100 := by
  obtain ⟨a, b, c, _⟩ := drawOk_iff.1 hd
  refine ⟨?_, by omega, by omega, fun i j => Nat.le_trans (renG_le _ _ _ _ _) (by omega)⟩
  unfold drawC
  rw [hd]
  rfl
theorem drawC_39 (h wd : Int) (m : Nat → Nat → Nat) : (drawC h wd m).size = 39 := by unfold drawC; split <;> exact planC_size _ _ _ _
theorem drawC_size (h wd : Int) (m : Nat → Nat → Nat) : (Try.prog.info? 38).map (·.size) = some (drawC h wd m).size := by rw [drawC_39]; kernel_rfl
theorem drawC_one (h wd : Int) (m : Nat → Nat → Nat) : (drawC h wd m).all (·.oneCell') = true := by unfold drawC; split <;> exact planC_one _ _ _ _

end Go.Proofs.Ytieieokkaomkaaa
