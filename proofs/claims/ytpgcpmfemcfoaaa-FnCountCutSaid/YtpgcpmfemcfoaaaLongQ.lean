/-
  Merged texts: LongA LongB.
-/
import Derived.Test.YtpgcpmfemcfoaaaSpecWXQ
import Derived.Test.YtpgcpmfemcfoaaaArrQ

/-
  The longest wall: comparing, searching. (Walks, and the mathematics of it.)
-/
namespace Go.Proofs.Ytpgcpmfemcfoaaa
open Go.RowKit

def cmpI (a b : Int) : Int := if a < b then -1 else if b < a then 1 else 0
set_option maxHeartbeats 400000 in
theorem isNaN_any (a : Int) (w : World) : Calls Try.prog 135 #[.int .i64 a] w fun e w' => e = .returned (.bool false) ∧ w' = w := by
  have hn : (a != a) = false := by simp
  go_enter Try.func135, Try.ntmps135
  go_wp2
  go_ret
  exact ⟨rfl, rfl⟩

set_option maxHeartbeats 400000 in
theorem compare_any (a b : Int) (w : World) : Calls Try.prog 112 #[.int .i64 a, .int .i64 b] w fun e w' => e = .returned (.int .i64 (cmpI a b)) ∧ w' = w := by
  by_cases h1 : a < b
  · have HC := Lib.hid (show cmpI a b = -1 from if_pos h1)
    go_enter Try.func112, Try.ntmps112
    go_wp2_with (go_at_call 135; refine (isNaN_any _ _).mono ?_; rintro e w1 ⟨rfl, rfl⟩)
    go_ret
    exact ⟨ret_int HC.out.symm, rfl⟩
  · by_cases h2 : b < a
    · have HC := Lib.hid (show cmpI a b = 1 by unfold cmpI; rw [if_neg h1, if_pos h2])
      go_enter Try.func112, Try.ntmps112
      go_wp2_with (go_at_call 135; refine (isNaN_any _ _).mono ?_; rintro e w1 ⟨rfl, rfl⟩)
      go_ret
      exact ⟨ret_int HC.out.symm, rfl⟩
    · have HC := Lib.hid (show cmpI a b = 0 by unfold cmpI; rw [if_neg h1, if_neg h2])
      go_enter Try.func112, Try.ntmps112
      go_wp2_with (go_at_call 135; refine (isNaN_any _ _).mono ?_; rintro e w1 ⟨rfl, rfl⟩)
      go_ret
      exact ⟨ret_int HC.out.symm, rfl⟩

theorem range_below {w w' : World} {b o : Nat} {cs : List Value} (h : w.rangeAt b o cs) (hb : Below w.heap.size w w') : w'.rangeAt b o cs := fun j v hv => cell_below (h j v hv) hb

theorem HeldB.range {W : World} {B : Nat} {t : TypeId} {C : Array Value} (h : HeldB W B t C) : W.rangeAt B 0 C.toList := fun j v hv => by
  rw [Nat.zero_add, h.cell j, ← hv]; simp
theorem range_regrown {w : World} {b o : Nat} {cs : List Value} (h : w.rangeAt b o cs) : ∀ w', (∃ p : Regrown, w' = Sort.grow (redrawn w p.d) p.os) → w'.rangeAt b o cs := by
  rintro _ ⟨r, rfl⟩
  exact range_below h (below_regrown w r.d r.os)

/-! ### the longest wall -/

end Go.Proofs.Ytpgcpmfemcfoaaa

/-
  The longest wall: the model's answer. (Walk.)
-/
namespace Go.Proofs.Ytpgcpmfemcfoaaa
open Go.RowKit

end Go.Proofs.Ytpgcpmfemcfoaaa
