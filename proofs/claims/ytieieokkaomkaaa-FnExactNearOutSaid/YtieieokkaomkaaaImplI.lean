
/-
  The program's texts of plans that came out. (Walks.)
-/
import Derived.Test.YtieieokkaomkaaaSpecE
namespace Go.Proofs.Ytieieokkaomkaaa
open Go.RowKit

theorem owns_none (w : World) (base : Nat) : w.ownsRow base 9 1 (.slice none 0 0) 0 (([] : List ByteArray).map Value.string) := ⟨rfl, .inl ⟨rfl, rfl⟩⟩

theorem names_few (p : List ByteArray) : (orNone (doneB p) (namesB p)).length ≤ 1048576 := by
  cases h : doneB p
  · rw [orNone_no rfl]; exact Nat.zero_le _
  · rw [orNone_yes rfl, namesB_len]
    rw [doneB_name] at h
    have := (nameDraw_dims h).2.1
    omega

end Go.Proofs.Ytieieokkaomkaaa
