
/-
  What is counted is what is added. (Plain mathematics: no function is named.)
-/
import Derived.Test.YtnkfopnkgingpaaCntV
import Derived.Test.YtnkfopnkgingpaaCntJ
namespace Go.Proofs.Ytnkfopnkgingpaa

theorem cnt_sums {n : Int} (h : isN n = true) : cntO fairB n = fairSum n ∧ cntO looseB n = looSum n ∧ looSum n ≤ fairSum n := by
  rw [cntO_yes _ h, cntO_yes _ h]
  obtain ⟨k, rfl, h1, h7⟩ := bool_num h
  obtain ⟨a, b, c⟩ := counts_are h1 h7
  rw [Int.toNat_natCast, a, b, fairSum_yes h1 h7, looSum_yes h1 h7]
  exact ⟨rfl, rfl, by omega⟩

end Go.Proofs.Ytnkfopnkgingpaa
