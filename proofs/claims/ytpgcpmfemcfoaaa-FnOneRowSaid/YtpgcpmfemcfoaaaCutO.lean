/-
  Merged texts: LawN ListA.
-/
import Derived.Test.YtpgcpmfemcfoaaaLawsO
import Derived.Test.YtpgcpmfemcfoaaaNestsO
import Derived.Test.YtpgcpmfemcfoaaaSpecWXO
import Derived.Test.YtpgcpmfemcfoaaaRowO
import Derived.Test.YtpgcpmfemcfoaaaLongO
import Derived.Deep.MidRow
import Derived.OrdersHeld
import Derived.BigQuiet

/-
  The laws' helpers over lists of lists of numbers: compared, marked, held. (Walks.)
-/
namespace Go.Proofs.Ytpgcpmfemcfoaaa
open Go.RowKit

/-- one row is written anew -/
theorem RowsAt.put {w w' : World} {base : Nat} {ao : Option Addr} {cap : Nat} {A B : List (List Int)} {l l' : List Int} {us : List Value} {bo : Option Addr} {c : Nat} (h : RowsAt w base ao cap (A ++ l :: B) us)
    (hu : us[A.length]? = some (.slice bo l.length c)) (hg : w.grownBy w' (Value.ownBlock (.slice bo l.length c))) (hl : l'.length = l.length) (hown : w'.ownsRow base 3 1 (.slice bo l.length c) l.length (l'.map (Value.int .i64))) :
    RowsAt w' base ao cap (A ++ l' :: B) us := by
  have hlen : (A ++ l' :: B).length = (A ++ l :: B).length := by simp
  have hin := h.2.1 A.length l (by simp)
  obtain ⟨bo', c', e1, e2, e3⟩ := hin
  rw [hu] at e1
  simp only [Option.some.injEq, Value.slice.injEq, true_and] at e1
  obtain ⟨rfl, rfl⟩ := e1
  refine ⟨by rw [hlen]; exact owns_kept h.1 hg e3, fun i x hx => ?_, h.2.2⟩
  by_cases hi : i = A.length
  · subst hi
    rw [List.getElem?_append_right (Nat.le_refl _), Nat.sub_self, List.getElem?_cons_zero, Option.some.injEq] at hx
    subst hx
    exact ⟨bo, c, by rw [hl]; exact hu, by rw [hl]; exact hown, e3⟩
  · have hx' : (A ++ l :: B)[i]? = some x := by
      rcases Nat.lt_or_ge i A.length with h' | h'
      · rw [List.getElem?_append_left h'] at hx ⊢; exact hx
      · obtain ⟨m, hm⟩ : ∃ m, i - A.length = m + 1 := ⟨i - A.length - 1, by omega⟩
        rw [List.getElem?_append_right h', hm, List.getElem?_cons_succ] at hx ⊢; exact hx
    obtain ⟨b2, c2, f1, f2, f3⟩ := h.2.1 i x hx'
    exact ⟨b2, c2, f1, owns_kept f2 hg (h.2.2 i A.length _ _ _ _ _ _ hi f1 hu), f3⟩

end Go.Proofs.Ytpgcpmfemcfoaaa

/-
  All walls told: the model's answer and the program's. (Walks.)
-/
namespace Go.Proofs.Ytpgcpmfemcfoaaa
open Go.RowKit

end Go.Proofs.Ytpgcpmfemcfoaaa

/-
  Merged texts: Held CutA CutB CutC CutM.
-/
/-
  A region that draws its order, under a condition on the world that holds throughout: what it reads of held rows may be taken first. (No function of the program is named.)
-/
namespace Go.Proofs.Ytpgcpmfemcfoaaa
open Go.RowKit

theorem wpOp_go {P : Program} {ops : Array Oper} {Q : Exit → Act → World → Prop} {i : Nat} {o : Oper} {K : Act → World → Prop} {a : Act} {w : World} (hi : ops[i]? = some o) (hw : Region.wanted o (yielded ops a.tmps) = true) (h : o.wp P a w K Q) : wpOp P ops Q i K a w := by
  unfold wpOp
  simp only [hi, hw, if_true]
  exact .inl h
/-- a whole row may be read first, under a condition that holds it -/
theorem yieldsIf_load_row {P : Program} {ops : Array Oper} {S : World → Prop} {op : Oper} {a : Act} (hw : Region.wanted op (yielded ops a.tmps) = true) (ty : TypeId) (x : Operand) (ho : op.op = .load ty x)
    (g : Nat) (hx : a.eval x = .pointer (some ⟨g, 0, none⟩)) (t : TypeId) (cs : Array Value) (d : TypeDesc) (hS : ∀ w, S w → HeldB w g t cs)
    (hu : P.underlying ty = some d) (hd : (match d with | .struct _ | .array _ _ => true | _ => false) = true) (hi : (P.info? ty).map (·.size) = some cs.size) : YieldsIf P ops S op (.agg cs) a :=
  .inl ⟨hw, fun w hw' => by
    unfold execOp
    simp only [ho, hx, Instr.loadAt, Instr.sureAddr, Sem.run_bind, Sem.run_pure, Result.andThen_ok, run_loadVar_row w g t ty cs (0, 0) d (hS w hw') hu hd hi]⟩

end Go.Proofs.Ytpgcpmfemcfoaaa

/-
  The model asks walls whether they are cuts. (Walks.)
-/
namespace Go.Proofs.Ytpgcpmfemcfoaaa
open Go.RowKit

end Go.Proofs.Ytpgcpmfemcfoaaa

/-
  How many cuts there are, and the first one: the model's answers. (Walks.)
-/
namespace Go.Proofs.Ytpgcpmfemcfoaaa
open Go.RowKit

end Go.Proofs.Ytpgcpmfemcfoaaa

/-
  How many cuts there are, and the first one: the program's answers. (Walks.)
-/
namespace Go.Proofs.Ytpgcpmfemcfoaaa
open Go.RowKit

end Go.Proofs.Ytpgcpmfemcfoaaa

/-
  The first cut goes from end to end. (Mathematics.)
-/
namespace Go.Proofs.Ytpgcpmfemcfoaaa
open Go.RowKit

end Go.Proofs.Ytpgcpmfemcfoaaa
