
/-
  Small facts that the walks of the laws use.
-/
import Derived.Test.YtmbfhaeljnbflaaLawC
namespace Go.Proofs.Ytmbfhaeljnbflaa
open Go.RowKit

/-- what a later call owns lies in other blocks than what was there -/
theorem apart_base {W W' : World} {b1 : Nat} {e1 e2 : TypeId} {s1 s2 n1 n2 m1 m2 c1 c2 : Nat} {ao bo : Option Addr} {xs ys : List Value}
    (h1 : W.ownsRow b1 e1 s1 (.slice ao m1 c1) n1 xs) (h2 : W'.ownsRow W.heap.size e2 s2 (.slice bo m2 c2) n2 ys) : Apart ao bo := fun a b ha hb => by
  have := (owns_lt h1 a ha).2
  have := (owns_lt h2 b hb).1
  omega

theorem apart_base' {W W' : World} {b1 B : Nat} {e1 e2 : TypeId} {s1 s2 n1 n2 m1 m2 c1 c2 : Nat} {ao bo : Option Addr} {xs ys : List Value}
    (h1 : W.ownsRow b1 e1 s1 (.slice ao m1 c1) n1 xs) (h2 : W'.ownsRow B e2 s2 (.slice bo m2 c2) n2 ys) (hB : W.heap.size ≤ B) : Apart ao bo := fun a b ha hb => by
  have := (owns_lt h1 a ha).2
  have := (owns_lt h2 b hb).1
  omega

/-- marks are written into what the call owns -/
theorem below_mark {B b1 : Nat} {W w1 w2 : World} {e s n m c : Nat} {bo : Option Addr} {xs : List Value} (hb : Below B W w1) (hown : w1.ownsRow b1 e s (.slice bo m c) n xs) (hB : B ≤ b1) (hg : w1.grownBy w2 (Value.ownBlock (.slice bo m c))) (hW : B ≤ w1.heap.size) : Below B W w2 :=
  hb.trans (below_of_grownBy hg hW (fun k hk => by
    cases bo with
    | none => simp [Value.ownBlock] at hk
    | some b => simp only [Value.ownBlock, Option.some.injEq] at hk; subst hk; exact Nat.le_trans hB (owns_lt hown b rfl).1))

theorem quiet_below {w w' : World} (h : Quiet w w') : Below w.heap.size w w' := h.below _
theorem eqS_self (l : List ByteArray) : eqS l l = true := by unfold eqS; simp

end Go.Proofs.Ytmbfhaeljnbflaa
