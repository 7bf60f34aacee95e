
/-
  A room's box: the program's answer is the model's. (Walk, and the mathematics of it.)
-/
import Derived.Test.YtpgcpmfemcfoaaaRoomA
import Derived.Test.YtpgcpmfemcfoaaaImplK
namespace Go.Proofs.Ytpgcpmfemcfoaaa
open Go.RowKit

/-- the room that is told -/
theorem room_found {p : List ByteArray} (h : planB p = true) (room : Int) :
    (findB (scanB p.length (wideB p) (gridG p) (p.length * wideB p)) room).isSome = givenB p room ∧
    foundC (findB (scanB p.length (wideB p) (gridG p) (p.length * wideB p)) room) = #[.int .i64 (roomV p room).top, .int .i64 (roomV p room).left, .int .i64 (roomV p room).low, .int .i64 (roomV p room).right] := by
  have hp := planP_of h
  obtain ⟨hlen, hbox⟩ := hp.boxes
  generalize scanB p.length (wideB p) (gridG p) (p.length * wideB p) = L at *
  by_cases hr : 0 ≤ room ∧ room ≤ roomsB p - 1
  · have hg : givenB p room = true := by unfold givenB; rw [h, l6B_true hr.1 hr.2]; rfl
    rw [hp.rooms] at hr
    obtain ⟨r, rfl⟩ : ∃ r : Nat, room = (r : Int) := ⟨room.toNat, by omega⟩
    obtain ⟨x, hL, hx⟩ := hbox r (by omega)
    have hf : findB L (r : Int) = some x := by
      have hrl : r < L.length := by omega
      have hsplit : L = L.take r ++ [x] ++ L.drop (r + 1) := by
        have := List.take_append_drop (r + 1) L
        rw [List.take_succ_eq_append_getElem hrl] at this
        have he : L[r] = x := by rw [List.getElem?_eq_getElem hrl] at hL; exact Option.some.inj hL
        rw [he] at this
        exact this.symm
      rw [hsplit]
      refine findB_some (fun y hy => ?_) (by rw [hx.1])
      obtain ⟨s, hs, rfl⟩ := List.getElem_of_mem hy
      rw [List.length_take] at hs
      obtain ⟨z, hz, hzb⟩ := hbox s (by omega)
      have he : (L.take r)[s]'(by rw [List.length_take]; omega) = z := by
        rw [List.getElem_take]
        rw [List.getElem?_eq_getElem (show s < L.length by omega)] at hz
        exact Option.some.inj hz
      rw [he, hzb.1]
      omega
    rw [hf, roomV_yes hg, boxB_box hp hx, hg]
    obtain ⟨_, h1, h2, _⟩ := hx
    refine ⟨rfl, ?_⟩
    unfold foundC
    simp only
    rw [show ((x.row + x.high - 1 : Nat) : Int) - (x.row : Int) + 1 = (x.high : Int) by omega, show ((x.col + x.wide - 1 : Nat) : Int) - (x.col : Int) + 1 = (x.wide : Int) by omega]
  · have hg : givenB p room = false := by
      unfold givenB l6B
      rw [h, decide_eq_false hr]
      rfl
    have hf : findB L room = none := findB_none fun y hy => by
      obtain ⟨s, hs, rfl⟩ := List.getElem_of_mem hy
      obtain ⟨z, hz, hzb⟩ := hbox s (by omega)
      rw [List.getElem?_eq_getElem hs] at hz
      rw [Option.some.inj hz, hzb.1]
      rw [hp.rooms] at hr
      omega
    rw [hf, roomV_no hg, hg]
    exact ⟨rfl, rfl⟩

end Go.Proofs.Ytpgcpmfemcfoaaa
