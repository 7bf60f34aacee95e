/-
  The number of rooms: the model's and the program's. (Walks.)
-/
import Derived.Test.YtpgcpmfemcfoaaaTurnsR
import Derived.Test.YtpgcpmfemcfoaaaMathCER

namespace Go.Proofs.Ytpgcpmfemcfoaaa
open Go.RowKit

/-- the number of rooms, none for what is no plan -/
def roomsOr (p : List ByteArray) : Int := if planB p then roomsB p else 0
theorem roomsOr_yes {p : List ByteArray} (h : planB p = true) : roomsOr p = roomsB p := by unfold roomsOr; rw [h]; rfl
end Go.Proofs.Ytpgcpmfemcfoaaa

/-
  Plain mathematics: the boxes that the program tells are those of the model.
-/
namespace Go.Proofs.Ytpgcpmfemcfoaaa
open Go.RowKit

/-- a box is that of a room: its cells are just those of the room -/
def BoxOf (p : List ByteArray) (r : Nat) (x : Bx) : Prop :=
  x.room = r ∧ 1 ≤ x.high ∧ 1 ≤ x.wide ∧ x.row + x.high ≤ p.length ∧ x.col + x.wide ≤ wideB p ∧ ∀ i j, i < p.length → j < wideB p → (markN p i j = r ↔ InR x.row x.col x.high x.wide i j)

theorem PlanP.boxes {p : List ByteArray} (hp : PlanP p) : (scanB p.length (wideB p) (gridG p) (p.length * wideB p)).length = gridR p ∧
    ∀ r, r < gridR p → ∃ x, (scanB p.length (wideB p) (gridG p) (p.length * wideB p))[r]? = some x ∧ BoxOf p r x := by
  have h6 := hp.grid.h6
  have w6 := hp.grid.w6
  obtain ⟨s1, s2⟩ := scan_inv (canon_ren p.length (wideB p) (markN p)) (p.length * wideB p) (Nat.le_refl _)
  have hR36 : (scanB p.length (wideB p) (gridG p) (p.length * wideB p)).length ≤ 36 := Nat.le_trans (scanB_len _ _ _ _) (Nat.mul_le_mul h6 w6)
  change ∀ i j, i < p.length → j < wideB p → i * wideB p + j < p.length * wideB p → gridG p i j < (scanB p.length (wideB p) (gridG p) (p.length * wideB p)).length at s1
  change ∀ r, r < (scanB p.length (wideB p) (gridG p) (p.length * wideB p)).length → ∃ i j, i < p.length ∧ j < wideB p ∧ i * wideB p + j < p.length * wideB p ∧ gridG p i j = r ∧ (∀ i' j', i' < p.length → j' < wideB p → i' * wideB p + j' < i * wideB p + j → gridG p i' j' ≠ r) ∧ (scanB p.length (wideB p) (gridG p) (p.length * wideB p))[r]? = some (mkBx p.length (wideB p) (gridG p) r i j) at s2
  generalize scanB p.length (wideB p) (gridG p) (p.length * wideB p) = L at *
  have hlen : L.length = gridR p := by
    rcases Nat.lt_trichotomy L.length (gridR p) with h | h | h
    · exfalso
      obtain ⟨i, j, hi, hj, hij⟩ := room_cell (h := p.length) (wd := wideB p) (m := markN p) (r := L.length) h
      have := s1 i j hi hj (cell_lt hi hj)
      rw [show gridG p i j = L.length from hij] at this
      omega
    · exact h
    · exfalso
      obtain ⟨i, j, hi, hj, _, hij, _⟩ := s2 (gridR p) h
      have := gridG_lt (p := p) hi hj
      omega
  refine ⟨hlen, fun r hr => ?_⟩
  obtain ⟨i, j, hi, hj, _, hij, hf, hL⟩ := s2 r (by omega)
  obtain ⟨row, col, hh, wi, h1, h2, h3⟩ := hp.rect i j hi hj
  have hm : markN p i j = r := (hp.mark i j hi hj).trans hij
  rw [hm] at h3
  have h4 : ∀ i j, i < p.length → j < wideB p → (gridG p i j = r ↔ InR row col hh wi i j) := fun i j hi hj => by rw [← hp.mark i j hi hj]; exact h3 i j hi hj
  obtain ⟨rfl, rfl, b1, b2⟩ := box_of_rect hi hj hij hf h1 h2 h4
  obtain ⟨e1, e2, e3, e4, e5⟩ := mkBx_fields (g := gridG p) h6 w6 hi hj (show r ≤ 36 by omega)
  refine ⟨_, hL, e1, ?_, ?_, ?_, ?_, ?_⟩
  · rw [e4, b1]
    have := (h3 row col hi hj).1 hm
    unfold InR at this; omega
  · rw [e5, b2]
    have := (h3 row col hi hj).1 hm
    unfold InR at this; omega
  · rw [e2, e4, b1]; exact h1
  · rw [e3, e5, b2]; exact h2
  · rw [e2, e3, e4, e5, b1, b2]; exact h3

/-- the model's corners of a room are those of its box -/
theorem boxB_box {p : List ByteArray} (hp : PlanP p) {r : Nat} {x : Bx} (hx : BoxOf p r x) : boxB p (r : Int) = ⟨x.row, x.col, (x.row + x.high - 1 : Nat), (x.col + x.wide - 1 : Nat)⟩ := by
  obtain ⟨_, h1, h2, h3, h4, h5⟩ := hx
  have hc : markN p x.row x.col = r := (h5 _ _ (by omega) (by omega)).2 ⟨by omega, by omega, by omega, by omega⟩
  have hc2 : markN p (x.row + x.high - 1) (x.col + x.wide - 1) = r := (h5 _ _ (by omega) (by omega)).2 ⟨by omega, by omega, by omega, by omega⟩
  obtain ⟨hall, ⟨i1, j1, a1, b1, c1, d1⟩, ⟨i2, j2, a2, b2, c2, d2⟩, ⟨i3, j3, a3, b3, c3, d3⟩, ⟨i4, j4, a4, b4, c4, d4⟩⟩ := boxB_eq hp.grid r ⟨x.row, x.col, by omega, by omega, hc⟩
  have q1 := hall _ _ (by omega) (by omega) hc
  have q2 := hall _ _ (by omega) (by omega) hc2
  have p1 := (h5 i1 j1 a1 b1).1 c1
  have p2 := (h5 i2 j2 a2 b2).1 c2
  have p3 := (h5 i3 j3 a3 b3).1 c3
  have p4 := (h5 i4 j4 a4 b4).1 c4
  unfold InR at p1 p2 p3 p4
  generalize boxB p (r : Int) = bx at *
  obtain ⟨t, l, lo, ri⟩ := bx
  simp only at *
  simp only [Box4.mk.injEq]
  omega

end Go.Proofs.Ytpgcpmfemcfoaaa
