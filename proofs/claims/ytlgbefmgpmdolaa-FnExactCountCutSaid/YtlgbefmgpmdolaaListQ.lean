/-
  Merged texts: LawN ListA.
-/
import Derived.Test.YtlgbefmgpmdolaaLawsQ
import Derived.Test.YtlgbefmgpmdolaaNestsQ
import Derived.Test.YtlgbefmgpmdolaaSpecWXQ

/-
  The laws' helpers over lists of lists of numbers: compared, marked, held. (Walks.)
-/
namespace Go.Proofs.Ytlgbefmgpmdolaa
open Go.RowKit

/-- one row is written anew -/
theorem RowsAt.put {w w' : World} {base : Nat} {ao : Option Addr} {cap : Nat} {A B : List (List Int)} {l l' : List Int} {us : List Value} {bo : Option Addr} {c : Nat} (h : RowsAt w base ao cap (A ++ l :: B) us)
    (hu : us[A.length]? = some (.slice bo l.length c)) (hg : w.grownBy w' (Value.ownBlock (.slice bo l.length c))) (hl : l'.length = l.length) (hown : w'.ownsRow base 3 1 (.slice bo l.length c) l.length (l'.map (Value.int .i64))) :
    RowsAt w' base ao cap (A ++ l' :: B) us := by
  have hlen : (A ++ l' :: B).length = (A ++ l :: B).length := by simp
  have hin := h.2.1 A.length l (by simp)
  obtain ⟨bo', c', e1, e2, e3⟩ := hin
  rw [hu] at e1
  simp only [Option.some.injEq, Value.slice.injEq, true_and] at e1
  obtain ⟨rfl, rfl⟩ := e1
  refine ⟨by rw [hlen]; exact owns_kept h.1 hg e3, fun i x hx => ?_, h.2.2⟩
  by_cases hi : i = A.length
  · subst hi
    rw [List.getElem?_append_right (Nat.le_refl _), Nat.sub_self, List.getElem?_cons_zero, Option.some.injEq] at hx
    subst hx
    exact ⟨bo, c, by rw [hl]; exact hu, by rw [hl]; exact hown, e3⟩
  · have hx' : (A ++ l :: B)[i]? = some x := by
      rcases Nat.lt_or_ge i A.length with h' | h'
      · rw [List.getElem?_append_left h'] at hx ⊢; exact hx
      · obtain ⟨m, hm⟩ : ∃ m, i - A.length = m + 1 := ⟨i - A.length - 1, by omega⟩
        rw [List.getElem?_append_right h', hm, List.getElem?_cons_succ] at hx ⊢; exact hx
    obtain ⟨b2, c2, f1, f2, f3⟩ := h.2.1 i x hx'
    exact ⟨b2, c2, f1, owns_kept f2 hg (h.2.2 i A.length _ _ _ _ _ _ hi f1 hu), f3⟩

end Go.Proofs.Ytlgbefmgpmdolaa

/-
  All walls told: the model's answer and the program's. (Walks.)
-/
namespace Go.Proofs.Ytlgbefmgpmdolaa
open Go.RowKit

end Go.Proofs.Ytlgbefmgpmdolaa
