
/-
  Lists of numbers among the arguments of a law: opened as cells, and copied.
-/
import Derived.Test.YtamfnahbhhmiiaaLawK
import Derived.Test.YtamfnahbhhmiiaaArgs
import Derived.Test.YtamfnahbhhmiiaaRow
import Derived.Test.YtamfnahbhhmiiaaNums
import Derived.ChangeSlices
namespace Go.Proofs.Ytamfnahbhhmiiaa
open Go.ChangeShapes Go.WideShapes Go.ChangeAt Go.RowKit

theorem infoIntN : (Try.prog.info? 3).map (fun i => (i.zero, i.size, i.bytes)) = some (some (.int .i64 0), 1, 8) := by kernel_rfl
theorem cellsIntN : Try.prog.cellsOf 3 = 1 := by kernel_rfl

/-- an argument that is a list of numbers, as cells -/
theorem open_numbers {H : Type} {enc : TypeId × Value → H} {W : World} {a0 : Option Addr} {len cap : Nat} {d : DataW H} {p : List MemPlace}
    (h : DataW.Trod enc Try.prog W 0 (fun _ => true) true 25 (.slice a0 len cap) d p) : ∃ l : List Int, l.length = len ∧ l.length ≤ maxLen ∧ CellsAt W a0 (l.map (Value.int .i64)) := by
  obtain ⟨fuel, hf⟩ := h
  rcases open_ints Try.underlying25 Try.underlying3 cellsIntN hf with ⟨hcs, _⟩ | ⟨a, len', cap', ss, hcs, _, hl, hm, hz, _, hcell, hsz⟩
  · simp [Value.cells] at hcs
    obtain ⟨rfl, rfl, rfl⟩ := hcs
    exact ⟨[], rfl, Nat.zero_le _, CellsAt.nil _ _⟩
  · simp [Value.cells] at hcs
    obtain ⟨rfl, rfl, rfl⟩ := hcs
    simp only [if_true] at hz
    refine ⟨ss.take len, by simp; omega, by simp; omega, fun i u hu => ?_⟩
    rw [List.getElem?_map, Option.map_eq_some_iff] at hu
    obtain ⟨s, hs, rfl⟩ := hu
    have hi : i < (ss.take len).length := (List.getElem?_eq_some_iff.1 hs).1
    rw [List.length_take] at hi
    have hc := hcell i (by omega)
    obtain ⟨b, off, spot⟩ := a
    have hspot : spot = Option.none := by simpa [Addr.add] using World.cell?_spot (hcell 0 (by omega))
    subst hspot
    refine ⟨b, off, rfl, ?_⟩
    rw [add_plain] at hc
    rw [hc]
    rw [List.getElem?_take, if_pos (by omega)] at hs
    simp [hs]

end Go.Proofs.Ytamfnahbhhmiiaa
