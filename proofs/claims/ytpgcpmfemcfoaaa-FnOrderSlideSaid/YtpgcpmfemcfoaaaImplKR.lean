/-
  A room's box: the model's answer. (Walks.)
-/
import Derived.Test.YtpgcpmfemcfoaaaMathFR
import Derived.Test.YtpgcpmfemcfoaaaTurnsR

namespace Go.Proofs.Ytpgcpmfemcfoaaa
open Go.RowKit

/-- whether there are a plan and a room -/
def givenB (p : List ByteArray) (room : Int) : Bool := planB p && l6B room 0 (roomsB p - 1)
set_option maxHeartbeats 400000 in
theorem l1Given_any (ao : Option Addr) (cap : Nat) (p : List ByteArray) (room : Int) (w : World) (hl : p.length ≤ 1048576) (hs : ∀ s ∈ p, s.size ≤ 1048576) (hc : CellsAt w ao (p.map Value.string)) :
    Calls Try.prog 144 #[.slice ao p.length cap, .int .i64 room] w fun e w' => e = .returned (.bool (givenB p room)) ∧ Below w.heap.size w w' := by
  cases hp : planB p
  · have hg : givenB p room = false := by unfold givenB; rw [hp]; rfl
    rw [hg]
    go_enter Try.func144, Try.ntmps144
    go_wp2_with (go_at_call 88; refine (specPlanIn_any _ _ _ _ hl hs hc).mono ?_; rw [hp]; rintro e w1 ⟨rfl, hb1⟩)
    go_ret
    exact ⟨rfl, hb1⟩
  · have hg : givenB p room = l6B room 0 (roomsB p - 1) := by unfold givenB; rw [hp]; rfl
    rw [hg]
    have hrb := roomsF_bound p
    go_enter Try.func144, Try.ntmps144
    go_wp2_with (first
      | (go_at_call 88; refine (specPlanIn_any _ _ _ _ hl hs hc).mono ?_; rw [hp]; rintro e w1 ⟨rfl, hb1⟩; have hc1 := hc.below hb1)
      | (go_at_call 56; refine (l1Rooms_any _ _ _ _ hl hs hc1).mono ?_; rintro e w2 ⟨rfl, rfl⟩)
      | (go_at_call 55; refine (l6In_any _ _ _ _).mono ?_; rintro e w3 ⟨rfl, rfl⟩))
    go_ret
    exact ⟨rfl, hb1⟩

end Go.Proofs.Ytpgcpmfemcfoaaa

/-
  The program finds the box of a room. (Walk inside a fence.)
-/
namespace Go.Proofs.Ytpgcpmfemcfoaaa
open Go.RowKit Go.Shelf

attribute [local go_sem] Oper.semAt_some

end Go.Proofs.Ytpgcpmfemcfoaaa
