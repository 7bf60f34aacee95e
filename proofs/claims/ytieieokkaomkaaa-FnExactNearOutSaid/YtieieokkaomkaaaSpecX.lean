
/-
  The model's walls, all of them in order. (Walks.)
-/
import Derived.Test.YtieieokkaomkaaaWallK
import Derived.Test.YtieieokkaomkaaaNestB
namespace Go.Proofs.Ytieieokkaomkaaa
open Go.RowKit

def wlN (x : Wl) : List Int := [x.way, x.line, x.first, x.long]
theorem upL_three {p : List ByteArray} {k : Nat} : ∀ l ∈ upL p k, l.length = 3 := fun l hl => by
  unfold upL at hl; rw [List.mem_map] at hl; obtain ⟨x, _, rfl⟩ := hl; rfl

/-- the model's walls, as lists of numbers -/
def wallsL (p : List ByteArray) : List (List Int) := (upL p (wideB p)).map (fun l => 0 :: l) ++ (upL (transB p) p.length).map (fun l => 1 :: l)
theorem wallsL_walls {p : List ByteArray} (h : planB p = true) : wallsL p = (wallsP p).map wlN := by
  unfold wallsL
  rw [upL_grid h, upL_trans h, wallsP_yes h]
  unfold wallsG
  rw [List.map_append, List.map_map, List.map_map]
  congr 1
  · refine List.map_congr_left fun x hx => ?_
    simp [wlN, wlL, ways_up x hx]
  · refine List.map_congr_left fun x hx => ?_
    simp [wlN, wlL, ways_lv x hx]

theorem take_map_snoc {f : List Int → List Int} {U : List (List Int)} {i : Nat} (h : i < U.length) : (U.take (i + 1)).map f = (U.take i).map f ++ [f (U.getD i [])] := by
  rw [take_succ_getD U i [] h, List.map_append]; rfl

end Go.Proofs.Ytieieokkaomkaaa
