/-
  What the law of cuttable plans counted asks. (Mathematics.)
-/
import Derived.Test.YtpgcpmfemcfoaaaCtsCQ
import Derived.Test.YtpgcpmfemcfoaaaCtnMQ
import Derived.Test.YtpgcpmfemcfoaaaStkQ

namespace Go.Proofs.Ytpgcpmfemcfoaaa
open Go.RowKit

/-- plans of at most four rooms are cuttable -/
theorem few_cut {p : List ByteArray} (hp : planB p = true) (h4 : gridR p ≤ 4) : (treeP p).isSome = true := by
  have hP := planP_of hp
  have ht := Rc.tree_stuck (g := gridG p) (n := 12) (allR_fit hp).1 (allR_fit hp).2
  rw [treeP_yes hp, ht]
  cases hs : (allR p).stuck (gridG p) 12 with
  | none => rfl
  | some S =>
    obtain ⟨C, h1, hc⟩ := stuck_is hP.rectG 12 _ S (allR_clo hp) hs
    have h5 := five_rooms hP.rectG (fun i j hi hj => gridG_lt hi hj) hP.grid.h6 hP.grid.w6 C h1 hc
    have := Rc.rooms_few (g := gridG p) (r := gridR p) (R := S)
    omega
theorem cutCount_math {a b : Nat} (a1 : 1 ≤ a) (a6 : a ≤ 6) (b1 : 1 ≤ b) (b6 : b ≤ 6) (h9 : a * b ≤ 9) :
    ∀ r, r < a * b + 1 → (cntL (fun p => (treeP p).isSome) a b).getD r 0 ≤ (cntL (fun _ => true) a b).getD r 0 ∧ (r ≤ 4 → (cntL (fun p => (treeP p).isSome) a b).getD r 0 = (cntL (fun _ => true) a b).getD r 0) := fun r hr => by
  rw [cntL_at hr, cntL_at hr]
  refine ⟨cntQ_le _ _ _ _, fun h4 => cntQ_eq fun y hy hr => ?_⟩
  have L := leaf a1 a6 b1 b6 h9 hy
  exact few_cut L.plan (by rw [L.rooms]; omega)
end Go.Proofs.Ytpgcpmfemcfoaaa
