
/-
  A room's box: the model's answer. (Walks.)
-/
import Derived.Test.YtpgcpmfemcfoaaaRoomsA
import Derived.Test.YtpgcpmfemcfoaaaMathF
namespace Go.Proofs.Ytpgcpmfemcfoaaa
open Go.RowKit

/-- whether there are a plan and a room -/
def givenB (p : List ByteArray) (room : Int) : Bool := planB p && l6B room 0 (roomsB p - 1)
/-- a room's box, none for what is no room -/
def roomV (p : List ByteArray) (room : Int) : Box4 := if givenB p room then ⟨(boxB p room).top, (boxB p room).left, (boxB p room).low - (boxB p room).top + 1, (boxB p room).right - (boxB p room).left + 1⟩ else ⟨0, 0, 0, 0⟩
theorem roomV_yes {p : List ByteArray} {room : Int} (h : givenB p room = true) : roomV p room = ⟨(boxB p room).top, (boxB p room).left, (boxB p room).low - (boxB p room).top + 1, (boxB p room).right - (boxB p room).left + 1⟩ := by unfold roomV; rw [h]; rfl
theorem roomV_no {p : List ByteArray} {room : Int} (h : givenB p room = false) : roomV p room = ⟨0, 0, 0, 0⟩ := by unfold roomV; rw [h]; rfl

set_option maxHeartbeats 400000 in
theorem l1Given_any (ao : Option Addr) (cap : Nat) (p : List ByteArray) (room : Int) (w : World) (hl : p.length ≤ 1048576) (hs : ∀ s ∈ p, s.size ≤ 1048576) (hc : CellsAt w ao (p.map Value.string)) :
    Calls Try.prog 144 #[.slice ao p.length cap, .int .i64 room] w fun e w' => e = .returned (.bool (givenB p room)) ∧ Below w.heap.size w w' := by
  cases hp : planB p
  · have hg : givenB p room = false := by unfold givenB; rw [hp]; rfl
    rw [hg]
    go_enter Try.func144, Try.ntmps144
    go_wp2_with (go_at_call 88; refine (specPlanIn_any _ _ _ _ hl hs hc).mono ?_; rw [hp]; rintro e w1 ⟨rfl, hb1⟩)
    go_ret
    exact ⟨rfl, hb1⟩
  · have hg : givenB p room = l6B room 0 (roomsB p - 1) := by unfold givenB; rw [hp]; rfl
    rw [hg]
    have hrb := roomsF_bound p
    go_enter Try.func144, Try.ntmps144
    go_wp2_with (first
      | (go_at_call 88; refine (specPlanIn_any _ _ _ _ hl hs hc).mono ?_; rw [hp]; rintro e w1 ⟨rfl, hb1⟩; have hc1 := hc.below hb1)
      | (go_at_call 56; refine (l1Rooms_any _ _ _ _ hl hs hc1).mono ?_; rintro e w2 ⟨rfl, rfl⟩)
      | (go_at_call 55; refine (l6In_any _ _ _ _).mono ?_; rintro e w3 ⟨rfl, rfl⟩))
    go_ret
    exact ⟨rfl, hb1⟩

end Go.Proofs.Ytpgcpmfemcfoaaa
