
/-
  The model's answers on names and rooms. (Walks.)
-/
import Derived.Test.YtieieokkaomkaaaMathE
namespace Go.Proofs.Ytieieokkaomkaaa
open Go.RowKit

/-- a call hands back texts of the call's own, and a word whether there are any -/
def TextsRet (base : Nat) (T : List ByteArray) (b : Bool) (e : Ending) (w' : World) : Prop :=
  ∃ ro rc, e = .returned (.tuple #[.slice ro T.length rc, .bool b]) ∧ w'.ownsRow base 9 1 (.slice ro T.length rc) T.length (T.map Value.string)

/-- the texts of what a change comes to -/
def orNone (b : Bool) (T : List ByteArray) : List ByteArray := if b then T else []
theorem orNone_yes {b : Bool} {T : List ByteArray} (h : b = true) : orNone b T = T := by rw [h]; rfl
theorem orNone_no {b : Bool} {T : List ByteArray} (h : b = false) : orNone b T = [] := by rw [h]; rfl

theorem names_size {p : List ByteArray} {n : Nat} (hs : ∀ s ∈ p, s.size ≤ n) : ∀ s ∈ namesB p, s.size ≤ n := fun s h => by
  unfold namesB at h
  rw [List.mem_map] at h
  obtain ⟨t, ht, rfl⟩ := h
  rw [← size_list]
  unfold namesL
  simp only [List.length_map]
  rw [size_list]
  exact hs t ht

end Go.Proofs.Ytieieokkaomkaaa
