/-
  The model asks walls whether they are cuts. (Walks.)
-/
import Derived.Test.YtmbfhaeljnbflaaSpecX
import Derived.BigQuiet
namespace Go.Proofs.Ytmbfhaeljnbflaa
open Go.RowKit

/-- a wall that goes from one end of a plan to the other one -/
def cutB (h wd : Nat) (x : Wl) : Bool := decide (x.long = alongN h wd x.way)

set_option maxRecDepth 100000 in
set_option maxHeartbeats 1000000 in
theorem l3Long_any (ao : Option Addr) (cap : Nat) (p : List ByteArray) (g c : Nat) (x : Wl) (w : World) (h1 : 1 ≤ p.length) (hx : x.way < 2) (hc : CellsAt w ao (p.map Value.string))
    (hr : CellsAt w (some ⟨g, 0, none⟩) ((wlN x).map (Value.int .i64))) :
    Calls Try.prog 51 #[.slice ao p.length cap, .slice (some ⟨g, 0, none⟩) 4 c] w
      fun e w' => e = .returned (.bool (cutB p.length (wideB p) x)) ∧ Below w.heap.size w w' := by
  obtain ⟨b0, o0, e0, k0⟩ := hr.int 0 (by simp [wlN])
  obtain ⟨b3, o3, e3, k3⟩ := hr.int 3 (by simp [wlN])
  simp only [Option.some.injEq, Addr.mk.injEq, and_true] at e0 e3
  obtain ⟨rfl, rfl⟩ := e0
  obtain ⟨rfl, rfl⟩ := e3
  obtain ⟨bp, op, rfl, kp⟩ := hc.str 0 (by omega)
  have hw0 : (p.getD 0 ByteArray.empty).size = wideB p := rfl
  simp only [wlN, List.getD_cons_zero, List.getD_cons_succ] at k0 k3
  have hi0 : (0 : Int) < (p.length : Int) := by omega
  have kp' : w.cell? ⟨bp, op, none⟩ = some (.string (p.getD 0 ByteArray.empty)) := kp
  rcases (show x.way = 0 ∨ x.way = 1 by omega) with hw | hw
  · rw [hw] at k0
    by_cases hl : x.long = p.length
    · have HC := Lib.hid (show cutB p.length (wideB p) x = true by unfold cutB alongN; rw [if_pos hw]; exact decide_eq_true hl)
      have hd : ((x.long : Int) == (p.length : Int)) = true := by simp [hl]
      clear hl hw hw0 hx
      generalize p.getD 0 ByteArray.empty = s0 at *
      go_enter Try.func51, Try.ntmps51
      go_wp2
      go_quiet (fail)
      go_wp2
      go_ret
      exact ⟨by rw [HC.out]; rfl, below_drewN _ _ _⟩
    · have HC := Lib.hid (show cutB p.length (wideB p) x = false by unfold cutB alongN; rw [if_pos hw]; exact decide_eq_false hl)
      have hd : ((x.long : Int) == (p.length : Int)) = false := by rw [beq_eq_false_iff_ne]; omega
      clear hl hw hw0 hx
      generalize p.getD 0 ByteArray.empty = s0 at *
      go_enter Try.func51, Try.ntmps51
      go_wp2
      go_quiet (fail)
      go_wp2
      go_ret
      exact ⟨by rw [HC.out]; rfl, below_drewN _ _ _⟩
  · rw [hw] at k0
    by_cases hl : x.long = wideB p
    · have HC := Lib.hid (show cutB p.length (wideB p) x = true by unfold cutB alongN; rw [if_neg (by omega)]; exact decide_eq_true hl)
      rw [← hw0] at hl
      have hd : ((x.long : Int) == ((p.getD 0 ByteArray.empty).size : Int)) = true := by simp [hl]
      clear hl hw hw0 hx
      generalize p.getD 0 ByteArray.empty = s0 at *
      go_enter Try.func51, Try.ntmps51
      go_wp2
      go_quiet (fail)
      go_wp2
      go_ret
      exact ⟨by rw [HC.out]; rfl, below_drewN _ _ _⟩
    · have HC := Lib.hid (show cutB p.length (wideB p) x = false by unfold cutB alongN; rw [if_neg (by omega)]; exact decide_eq_false hl)
      rw [← hw0] at hl
      have hd : ((x.long : Int) == ((p.getD 0 ByteArray.empty).size : Int)) = false := by rw [beq_eq_false_iff_ne]; omega
      clear hl hw hw0 hx
      generalize p.getD 0 ByteArray.empty = s0 at *
      go_enter Try.func51, Try.ntmps51
      go_wp2
      go_quiet (fail)
      go_wp2
      go_ret
      exact ⟨by rw [HC.out]; rfl, below_drewN _ _ _⟩

end Go.Proofs.Ytmbfhaeljnbflaa
