
/-
  Plans widened: the model's answer and the program's. (Walks.)
-/
import Derived.Test.YtpgcpmfemcfoaaaTurns
import Derived.Test.YtpgcpmfemcfoaaaImplW
namespace Go.Proofs.Ytpgcpmfemcfoaaa
open Go.RowKit

def wideOk (p : List ByteArray) (k : Int) : Bool := planB p && (l6B k 1 3 && doneB (spreadB p k.toNat))
theorem wide_few (p : List ByteArray) (k : Int) : (orNone (wideOk p k) (namesB (spreadB p k.toNat))).length ≤ 1048576 := by
  cases h : wideOk p k
  · rw [orNone_no rfl]; exact Nat.zero_le _
  · unfold wideOk at h
    simp only [Bool.and_eq_true] at h
    have := names_few (spreadB p k.toNat)
    rw [h.2.2] at this
    exact this

theorem ok_of_read {p : List ByteArray} (hr : readOk p = true) : nameDraw p = true := by unfold readOk at hr; rw [Bool.and_eq_true] at hr; exact hr.1
theorem read_dims {p : List ByteArray} (hr : readOk p = true) : p.length ≤ 6 ∧ wideB p ≤ 6 ∧ ∀ i j, gridG p i j ≤ 9 :=
  ⟨(nameDraw_dims (ok_of_read hr)).2.1.2, (nameDraw_dims (ok_of_read hr)).2.2.1.2, gridG_le (ok_of_read hr)⟩

end Go.Proofs.Ytpgcpmfemcfoaaa
