
/-
  Rows of six numbers: read by value out of a plan, and compared. (Runs of single operations.)
-/
import Derived.Test.YtpgcpmfemcfoaaaRow
import Derived.Deep.MidRow
import Derived.ChangeKeysEq
namespace Go.Proofs.Ytpgcpmfemcfoaaa
open Go.RowKit

section
variable {P : Program} {ops : Array Oper} {C : World → Prop} {Q : Act → Prop} {a : Act} {o : Oper} {rest : List Oper}

theorem wpQuiet_value (hw : Region.wanted o (yielded ops a.tmps) = true) (v : Value) (hrun : ∀ w, C w → (execOp a.eval o).run P w = .ok (.value v) w) (h : wpQuiet P ops C Q rest (a.put o.dst v)) : wpQuiet P ops C Q (o :: rest) a :=
  BigFrame.wpQuiet_want hw fun K hK => ⟨v, fun w hC => by unfold Oper.quietAt; rw [hrun w hC]; exact ⟨rfl, rfl⟩, hK _ h⟩

theorem wpQuiet_load_mid (hw : Region.wanted o (yielded ops a.tmps) = true) (ty : TypeId) (x : Operand) (ho : o.op = .load ty x)
    (b off : Nat) (hx : a.eval x = .pointer (some ⟨b, off, none⟩)) (cs : List Value) (A : Array Value) (hA : cs.toArray = A) (d : TypeDesc) (hc : ∀ w, C w → w.rangeAt b off cs)
    (hu : P.underlying ty = some d) (hd : d.isRow = true) (hi : (P.info? ty).map (·.size) = some cs.length)
    (h : wpQuiet P ops C Q rest (a.put o.dst (.agg A))) : wpQuiet P ops C Q (o :: rest) a := by
  subst hA
  exact wpQuiet_value hw _ (fun w hC => by
    unfold execOp
    simp only [ho, hx, Instr.loadAt, Instr.sureAddr, Sem.run_bind, Sem.run_pure, Result.andThen_ok, run_loadVar_mid w b off ty cs d (hc w hC) hu hd hi]) h

theorem wpQuiet_bin (hw : Region.wanted o (yielded ops a.tmps) = true) (op : BinOp) (t t2 : TypeId) (x y : Operand) (ho : o.op = .binOp op t x y t2) (v : Value)
    (hgd : ∀ w, (eqGuard op t x y (a.eval x) (a.eval y)).run P w = .ok () w) (hrun : ∀ w, (binOp op t (a.eval x) (a.eval y)).run P w = .ok v w) (h : wpQuiet P ops C Q rest (a.put o.dst v)) : wpQuiet P ops C Q (o :: rest) a :=
  wpQuiet_value hw v (fun w _ => by
    unfold execOp
    simp only [ho]
    simp [hgd w, hrun w, Result.andThen]) h
end

def six (x : Nat → Int) : List Value := (List.range 6).map fun j => .int .i64 (x j)
def sixB (x y : Nat → Int) : Bool := (List.range 6).all fun j => x j == y j

theorem items_eq {w : World} (d : Nat) (x y : Nat → Int) : ∀ (l : List Nat), (∀ j ∈ l, j < 6) → (Op.eqItems (d + 1) 3 1 (six x).toArray (six y).toArray l).run Try.prog w = .ok (l.all fun j => x j == y j) w
  | [], _ => by simp [Op.eqItems]
  | j :: l, h => by
    have hj : j < 6 := h j (by simp)
    have ih := items_eq (w := w) d x y l (fun k hk => h k (by simp [hk]))
    have px : (part 3 (six x).toArray (j * 1)).run Try.prog w = .ok (.int .i64 (x j)) w := by
      simp [part, isAgg, run_underlying Try.underlying3, six, hj]
    have py : (part 3 (six y).toArray (j * 1)).run Try.prog w = .ok (.int .i64 (y j)) w := by
      simp [part, isAgg, run_underlying Try.underlying3, six, hj]
    have pe : (Op.equalIn (d + 1) 3 (.int .i64 (x j)) (.int .i64 (y j))).run Try.prog w = .ok (x j == y j) w := run_equalIn_int w d 3 .i64 .i64 _ _ Try.underlying3
    simp only [Op.eqItems, Sem.run_bind, px, py, pe, Result.andThen_ok, List.all_cons]
    cases hb : (x j == y j)
    · simp
    · simpa using ih

theorem Try.infoInt : (Try.prog.info? 3).isSome = true := by kernel_rfl

set_option maxRecDepth 100000 in
theorem run_neq_six (x y : Nat → Int) (w : World) : (binOp .neq 44 (.agg (six x).toArray) (.agg (six y).toArray)).run Try.prog w = .ok (.bool (!sixB x y)) w := by
  obtain ⟨i, hi⟩ := Option.isSome_iff_exists.1 Try.infoInt
  have h := items_eq (w := w) 9998 x y (List.range 6) (fun j hj => List.mem_range.1 hj)
  have h2 : (Op.equalIn 10000 44 (.agg (six x).toArray) (.agg (six y).toArray)).run Try.prog w = .ok (sixB x y) w := by
    rw [run_equalIn_array w 9999 (six x).toArray (six y).toArray Try.underlying44 hi]
    exact h
  simp only [binOp]
  simp [Op.equal, Op.maxDepth, h2]

theorem Try.guardSix : Try.prog.eqGuardType Try.prog.depth 44 = false := by kernel_rfl
theorem guard_six (op : BinOp) (x y : Operand) (A B : Array Value) (w : World) : (eqGuard op 44 x y (.agg A) (.agg B)).run Try.prog w = .ok () w := by
  unfold eqGuard
  cases op <;> first | (simp; done) | simp [Try.guardSix]

end Go.Proofs.Ytpgcpmfemcfoaaa
