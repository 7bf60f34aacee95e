
/-
  The program widens a plan. (Walks.)
-/
import Derived.Test.YtpgcpmfemcfoaaaTurns
namespace Go.Proofs.Ytpgcpmfemcfoaaa
open Go.RowKit

theorem wrap_div (i k : Nat) (hi : i < 1000) : wrap64 ((i : Int) / (k : Int)) = ((i / k : Nat) : Int) := by
  rw [← Int.natCast_ediv]
  have := Nat.div_le_self i k
  generalize i / k = q at *
  exact IntWalk.wrap64_in _ (by omega)

/-- what a change makes of a plan, if a test holds -/
def ifC (b : Bool) (C : Array Value) : Array Value := if b then C else zeroC
theorem ifC_yes {b : Bool} {C : Array Value} (h : b = true) : ifC b C = C := by rw [h]; rfl
theorem ifC_no {b : Bool} {C : Array Value} (h : b = false) : ifC b C = zeroC := by rw [h]; rfl

theorem mul_wrap {h k : Nat} (hh : h ≤ 100) (hk : k ≤ 100) : wrap64 ((h : Int) * (k : Int)) = ((h * k : Nat) : Int) := by
  rw [← Int.natCast_mul]
  have := Nat.mul_le_mul hh hk
  exact IntWalk.wrap64_in _ (by omega)

theorem ifC_39 (b : Bool) {C : Array Value} (h : C.size = 39) : (ifC b C).size = 39 := by cases b; exact planC_size 0 0 0 (fun _ _ => 0); exact h
theorem ifC_size (b : Bool) {C : Array Value} (h : C.size = 39) : (Try.prog.info? 47).map (·.size) = some (ifC b C).size := by rw [ifC_39 b h]; kernel_rfl
theorem ifC_one (b : Bool) {C : Array Value} (h : C.all (·.oneCell') = true) : (ifC b C).all (·.oneCell') = true := by cases b; exact planC_one 0 0 0 (fun _ _ => 0); exact h

end Go.Proofs.Ytpgcpmfemcfoaaa
