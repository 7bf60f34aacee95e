/-
  Merged texts: OrdH Sort OrdJ.
-/
import Derived.Test.YtpgcpmfemcfoaaaLonR
import Derived.Test.YtpgcpmfemcfoaaaLawsR
import Derived.Test.YtpgcpmfemcfoaaaDrawR
import Derived.Test.YtpgcpmfemcfoaaaNestsR

/-
  What the laws of orders ask. (Plain mathematics.)
-/
namespace Go.Proofs.Ytpgcpmfemcfoaaa

end Go.Proofs.Ytpgcpmfemcfoaaa

/-
  Numbers put in order by the laws.
-/
/-
  A list put in order: the walk and its mathematics; areas of plans turned.
-/
namespace Go.Proofs.Ytpgcpmfemcfoaaa
open Go.RowKit

/-- numbers held in a row -/
def RowI (w : World) (g : Nat) (L : List Int) : Prop := ∃ cur, HeldB w g 3 cur ∧ ∀ j, j < L.length → cur[j]? = (L.map (Value.int .i64))[j]?
theorem RowI.cell {w : World} {g : Nat} {L : List Int} (h : RowI w g L) (j : Nat) (hj : j < L.length) : w.cell? ⟨g, j, none⟩ = some (.int .i64 (L.getD j 0)) := by
  obtain ⟨cur, h1, h2⟩ := h
  rw [h1.cell j, h2 j hj]
  simp [hj]
theorem RowI.frozen {w : World} {g : Nat} {L : List Int} (h : RowI w g L) (j : Nat) : w.frozen? ⟨g, j, none⟩ = false := by
  obtain ⟨cur, h1, h2⟩ := h
  exact h1.frozen j
theorem RowI.set {w : World} {g : Nat} {L : List Int} (h : RowI w g L) (i : Nat) (x : Int) : RowI (w.setCell ⟨g, i, none⟩ (.int .i64 x)) g (L.set i x) := by
  obtain ⟨cur, h1, h2⟩ := h
  refine ⟨_, h1.set i _, fun j hj => ?_⟩
  rw [List.length_set] at hj
  have h3 := h2 j hj
  have h4 : j < cur.size := by
    rcases Nat.lt_or_ge j cur.size with h5 | h5
    · exact h5
    · rw [Array.getElem?_eq_none h5, List.getElem?_eq_getElem (by rw [List.length_map]; exact hj)] at h3; cases h3
  rw [List.map_set, Array.getElem?_setIfInBounds, List.getElem?_set]
  split
  · rename_i h5; subst h5; rw [if_pos h4, if_pos (by rw [List.length_map]; exact hj)]
  · exact h3
theorem RowI.cells {w : World} {g : Nat} {L : List Int} (h : RowI w g L) : CellsAt w (some ⟨g, 0, none⟩) (L.map (Value.int .i64)) := fun j u hu => by
  obtain ⟨cur, h1, h2⟩ := h
  refine ⟨g, 0, rfl, ?_⟩
  have hj : j < L.length := by have := (List.getElem?_eq_some_iff.1 hu).1; rwa [List.length_map] at this
  rw [Nat.zero_add, h1.cell j, h2 j hj]; exact hu

theorem set_self (L : List Int) (i : Nat) (hi : i < L.length) : L.set i (L.getD i 0) = L := by
  have : L.getD i 0 = L[i] := by simp [hi]
  rw [this]
  exact List.set_getElem_self hi
end Go.Proofs.Ytpgcpmfemcfoaaa

/-
  What the laws of both orders ask. (Plain mathematics.)
-/
namespace Go.Proofs.Ytpgcpmfemcfoaaa

theorem Lin.next {q : Nat → Nat → Bool} {r i : Nat} (L : Lin q r) (h1 : 1 ≤ i) (hi : i < r) : q ((lineN q r r).getD (i - 1) 0) ((lineN q r r).getD i 0) = true := by
  obtain ⟨b1, b2⟩ := L.back (k := i) hi
  obtain ⟨c1, c2⟩ := L.back (k := i - 1) (by omega)
  rcases L.all _ _ c2 b2 (fun e => by rw [e] at c1; omega) with e | e
  · exact e
  · have := L.mono b2 c2 e; omega
theorem Lin.perm {q : Nat → Nat → Bool} {r : Nat} (L : Lin q r) : (lineN q r r).Perm (List.range r) := by
  have hl := lineN_len q r r
  have nd : (lineN q r r).Nodup := by
    rw [List.nodup_iff_pairwise_ne, List.pairwise_iff_getElem]
    intro i j hi hj hij e
    have b1 := (L.back (k := i) (by omega)).1
    have b2 := (L.back (k := j) (by omega)).1
    rw [show (lineN q r r).getD i 0 = (lineN q r r)[i] by simp [hi]] at b1
    rw [show (lineN q r r).getD j 0 = (lineN q r r)[j] by simp [hj]] at b2
    rw [e] at b1
    omega
  rw [List.perm_ext_iff_of_nodup nd List.nodup_range]
  intro x
  rw [List.mem_range]
  constructor
  · intro hx
    obtain ⟨i, hi, rfl⟩ := List.getElem_of_mem hx
    have := (L.back (k := i) (by omega)).2
    rwa [show (lineN q r r).getD i 0 = (lineN q r r)[i] by simp [hi]] at this
  · intro hx
    have := L.line hx
    rw [← this]
    have hlt := L.lt hx
    rw [show (lineN q r r).getD (placeN q r x) 0 = (lineN q r r)[placeN q r x]'(by omega) by simp [hl, hlt]]
    exact List.getElem_mem _
end Go.Proofs.Ytpgcpmfemcfoaaa
