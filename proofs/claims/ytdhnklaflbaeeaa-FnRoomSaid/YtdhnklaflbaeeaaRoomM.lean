
/-
  A room's box and its area. (Mathematics.)
-/
import Derived.Test.YtdhnklaflbaeeaaAreas
import Derived.Test.YtdhnklaflbaeeaaRoomA
namespace Go.Proofs.Ytdhnklaflbaeeaa
open Go.RowKit

theorem room_math {p : List ByteArray} {n : Int} (h : givenB p n = true) : planB p = true ∧ ∃ (k : Nat) (x : Bx), n = (k : Nat) ∧ k < (areasOr p).length ∧ roomV p n = ⟨(x.row : Nat), (x.col : Nat), (x.high : Nat), (x.wide : Nat)⟩ ∧
    (areasOr p).getD k 0 = ((x.high * x.wide : Nat) : Int) ∧ 1 ≤ x.high ∧ 1 ≤ x.wide ∧ x.row + x.high ≤ p.length ∧ x.col + x.wide ≤ wideB p := by
  have h0 := h
  unfold givenB at h
  rw [Bool.and_eq_true] at h
  obtain ⟨hp, h1⟩ := h
  have hP := planP_of hp
  unfold l6B at h1
  rw [decide_eq_true_eq, hP.rooms] at h1
  obtain ⟨k, rfl⟩ : ∃ k : Nat, n = (k : Int) := ⟨n.toNat, by omega⟩
  obtain ⟨hlen, hbox⟩ := hP.boxes
  have hk : k < gridR p := by omega
  obtain ⟨x, hx1, hx⟩ := hbox k hk
  have hx0 := hx
  obtain ⟨_, a1, a2, a3, a4, _⟩ := hx0
  refine ⟨hp, k, x, rfl, ?_, ?_, ?_, a1, a2, a3, a4⟩
  · rw [areasOr_yes hp, areasL_len, hP.rooms]; omega
  · rw [roomV_yes h0, boxB_box hP hx]
    simp only [Box4.mk.injEq, true_and]
    omega
  · rw [areasOr_yes hp]
    have e1 : k < (areasL p (roomsB p).toNat).length := by rw [areasL_len, hP.rooms]; omega
    rw [List.getD_eq_getElem?_getD, List.getElem?_eq_getElem e1, Option.getD_some]
    rw [← cellsB_box hP hx]
    simp [areasL]
theorem area_small {p : List ByteArray} (h : planB p = true) {a b r c : Nat} (h1 : r + a ≤ p.length) (h2 : c + b ≤ wideB p) : a ≤ 6 ∧ b ≤ 6 ∧ r ≤ 6 ∧ c ≤ 6 ∧ ∃ A : Nat, A ≤ 36 ∧ (a : Int) * (b : Int) = (A : Int) ∧ a * b = A := by
  have hg := (planP_of h).grid
  have := hg.h6; have := hg.w6
  refine ⟨by omega, by omega, by omega, by omega, a * b, Nat.mul_le_mul (show a ≤ 6 by omega) (show b ≤ 6 by omega), by simp, rfl⟩

end Go.Proofs.Ytdhnklaflbaeeaa
