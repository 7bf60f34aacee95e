
/-
  Slices of slices of numbers, to be read. (No function of the program is named.)
-/
import Derived.Test.YtieieokkaomkaaaNest
namespace Go.Proofs.Ytieieokkaomkaaa
open Go.RowKit

/-- a row, to be read -/
theorem RowsAt.row {w : World} {base : Nat} {uo : Option Addr} {uc : Nat} {U : List (List Int)} {us : List Value} (h : RowsAt w base uo uc U us) {i : Nat} (hi : i < U.length) (hne : 0 < (U.getD i []).length) :
    ∃ bb off g c, uo = some ⟨bb, off, none⟩ ∧ w.cell? ⟨bb, off + i, none⟩ = some (.slice (some ⟨g, 0, none⟩) (U.getD i []).length c) ∧ CellsAt w (some ⟨g, 0, none⟩) ((U.getD i []).map (Value.int .i64)) ∧ base ≤ bb ∧ base ≤ g ∧ bb < w.heap.size ∧ g < w.heap.size := by
  have he : U[i]? = some (U.getD i []) := by simp [hi]
  obtain ⟨bo, c, h1, h2, _⟩ := h.2.1 i _ he
  obtain ⟨g, cap, hv, hg1, hg2⟩ := ownsRow_some h2 hne
  simp only [Value.slice.injEq] at hv
  obtain ⟨rfl, _, rfl⟩ := hv
  obtain ⟨bb, off, hb, hc⟩ := owns_cells h.1 i _ h1
  have hl := owns_lt h.1 _ hb
  exact ⟨bb, off, g, c, hb, hc, owns_cells h2, hl.1, hg1, hl.2, hg2⟩

theorem grownBy_step {W1 wr w' : World} {b : Nat} {row : Option Nat} (h : W1.grownBy wr (some b)) (hg : wr.grownBy w' row) (hr : ∀ k, row = some k → k = b ∨ W1.heap.size ≤ k) : W1.grownBy w' (some b) :=
  ⟨hg.os.trans h.os, hg.tape.trans h.tape, hg.output.trans h.output, Nat.le_trans h.size hg.size, fun k hk hne => (hg.block k (Nat.lt_of_lt_of_le hk h.size) (fun e => by
    rcases hr k e.symm with h' | h'
    · exact hne (by rw [h'])
    · omega)).trans (h.block k hk hne)⟩
theorem ownBlock_is {ao : Option Addr} {m cap k : Nat} (h : Value.ownBlock (.slice ao m cap) = some k) : ∃ a, ao = some a ∧ a.block = k := by
  cases ao with
  | none => simp [Value.ownBlock] at h
  | some a => simp only [Value.ownBlock, Option.some.injEq] at h; exact ⟨a, rfl, h⟩

end Go.Proofs.Ytieieokkaomkaaa
