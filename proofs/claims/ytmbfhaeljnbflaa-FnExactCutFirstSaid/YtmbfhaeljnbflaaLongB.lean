
/-
  The longest wall: the model's answer. (Walk.)
-/
import Derived.Test.YtmbfhaeljnbflaaLongA
namespace Go.Proofs.Ytmbfhaeljnbflaa
open Go.RowKit

theorem wlN_getD {L : List Wl} {i : Nat} (hi : i < L.length) : (L.map wlN).getD i [] = wlN (L.getD i zeroWl) := by simp [hi]
/-- a wall's four numbers, read out of a slice of slices -/
theorem rows_wl {w : World} {base : Nat} {uo : Option Addr} {uc : Nat} {L : List Wl} {us : List Value} (h : RowsAt w base uo uc (L.map wlN) us) {i : Nat} (hi : i < L.length) :
    ∃ bb off g c, uo = some ⟨bb, off, none⟩ ∧ w.cell? ⟨bb, off + i, none⟩ = some (.slice (some ⟨g, 0, none⟩) 4 c) ∧ w.cell? ⟨g, 0, none⟩ = some (.int .i64 ((L.getD i zeroWl).way : Nat)) ∧
      w.cell? ⟨g, 1, none⟩ = some (.int .i64 ((L.getD i zeroWl).line : Nat)) ∧ w.cell? ⟨g, 2, none⟩ = some (.int .i64 ((L.getD i zeroWl).first : Nat)) ∧ w.cell? ⟨g, 3, none⟩ = some (.int .i64 ((L.getD i zeroWl).long : Nat)) := by
  have hl : i < (L.map wlN).length := by rw [List.length_map]; exact hi
  obtain ⟨bb, off, g, c, h1, h2, h3, _⟩ := h.row hl (by rw [wlN_getD hi]; exact Nat.succ_pos _)
  rw [wlN_getD hi] at h2 h3
  have key : ∀ j v, (wlN (L.getD i zeroWl))[j]? = some v → w.cell? ⟨g, j, none⟩ = some (.int .i64 v) := fun j v hv => by
    obtain ⟨b', o', he, hc⟩ := h3 j (.int .i64 v) (by rw [List.getElem?_map, hv]; rfl)
    simp only [Option.some.injEq, Addr.mk.injEq, and_true] at he
    obtain ⟨rfl, rfl⟩ := he
    rwa [Nat.zero_add] at hc
  exact ⟨bb, off, g, c, h1, h2, key 0 _ rfl, key 1 _ rfl, key 2 _ rfl, key 3 _ rfl⟩

theorem planB_walls {p : List ByteArray} (h : longOk p = true) : planB p = true := by
  cases hp : planB p
  · unfold longOk at h; rw [wallsP_no hp] at h; simp at h
  · rfl

end Go.Proofs.Ytmbfhaeljnbflaa
