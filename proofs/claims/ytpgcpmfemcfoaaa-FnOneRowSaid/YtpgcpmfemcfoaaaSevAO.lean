/-
  The sums that tell the numbers of fair and loose permutations. (Plain mathematics: no function is named.)
-/
import Derived.Test.YtpgcpmfemcfoaaaRowO
import Derived.Test.YtpgcpmfemcfoaaaSpecAO
import Derived.Test.YtpgcpmfemcfoaaaSevNO
import Derived.Test.YtpgcpmfemcfoaaaTightSO
import Derived.Test.YtpgcpmfemcfoaaaSevMO

namespace Go.Proofs.Ytpgcpmfemcfoaaa

/-! # ways to choose -/
/-! # the sum for fair ones -/
def isN (n : Int) : Bool := decide (1 ≤ n) && decide (n ≤ 7)
theorem isN_yes {n : Int} (h1 : 1 ≤ n) (h7 : n ≤ 7) : isN n = true := by unfold isN; simp [h1, h7]
theorem isN_no {n : Int} (h : n < 1 ∨ 7 < n) : isN n = false := by unfold isN; rw [Bool.and_eq_false_iff, decide_eq_false_iff_not, decide_eq_false_iff_not]; omega
/-! # the sum for loose ones -/
end Go.Proofs.Ytpgcpmfemcfoaaa

/-
  May a permutation have so many numbers. (Walks.)
-/
namespace Go.Proofs.Ytpgcpmfemcfoaaa
open Go.RowKit

/-! # may a permutation have so many -/
set_option maxHeartbeats 400000 in
theorem isLength_any (n : Int) (w : World) :
    Calls Try.prog 51 #[.int .i64 n] w fun e w' => e = .returned (.bool (isN n)) ∧ w' = w := by
  by_cases h1 : 1 ≤ n
  · by_cases h7 : n ≤ 7
    · have H := Lib.hid (isN_yes h1 h7)
      go_enter Try.func51, Try.ntmps51
      go_wp2
      go_ret
      exact ⟨ret_bool H.out.symm, rfl⟩
    · have H := Lib.hid (isN_no (n := n) (.inr (by omega)))
      go_enter Try.func51, Try.ntmps51
      go_wp2
      go_ret
      exact ⟨ret_bool H.out.symm, rfl⟩
  · have H := Lib.hid (isN_no (n := n) (.inl (by omega)))
    go_enter Try.func51, Try.ntmps51
    go_wp2
    go_ret
    exact ⟨ret_bool H.out.symm, rfl⟩
end Go.Proofs.Ytpgcpmfemcfoaaa

/-
  Rows of numbers compared, and read in a region whose order is open. (Runs of single operations.)
-/
namespace Go.Proofs.Ytpgcpmfemcfoaaa
open Go.RowKit

theorem items_nums {w : World} (d : Nat) (A B : List Int) : ∀ (l : List Nat), (∀ j ∈ l, j < A.length ∧ j < B.length) → (Op.eqItems (d + 1) 3 1 (numC A) (numC B) l).run Try.prog w = .ok (l.all fun j => A.getD j 0 == B.getD j 0) w
  | [], _ => by simp [Op.eqItems]
  | j :: l, h => by
    obtain ⟨h1, h2⟩ := h j (by simp)
    have ih := items_nums (w := w) d A B l (fun k hk => h k (by simp [hk]))
    have px : (part 3 (numC A) (j * 1)).run Try.prog w = .ok (.int .i64 (A.getD j 0)) w := by
      simp [part, isAgg, run_underlying Try.underlying3, numC, h1]
    have py : (part 3 (numC B) (j * 1)).run Try.prog w = .ok (.int .i64 (B.getD j 0)) w := by
      simp [part, isAgg, run_underlying Try.underlying3, numC, h2]
    have pe : (Op.equalIn (d + 1) 3 (.int .i64 (A.getD j 0)) (.int .i64 (B.getD j 0))).run Try.prog w = .ok (A.getD j 0 == B.getD j 0) w := run_equalIn_int w d 3 .i64 .i64 _ _ Try.underlying3
    simp only [Op.eqItems, Sem.run_bind, px, py, pe, Result.andThen_ok, List.all_cons]
    cases hb : (A.getD j 0 == B.getD j 0)
    · simp
    · simpa using ih
theorem info_int : (Try.prog.info? 3).isSome = true := by kernel_rfl
theorem all_eq {A B : List Int} {n : Nat} (hA : A.length = n) (hB : B.length = n) : ((List.range n).all fun j => A.getD j 0 == B.getD j 0) = decide (A = B) := by
  rw [Bool.eq_iff_iff, List.all_eq_true, decide_eq_true_eq]
  constructor
  · intro h
    refine list_ext (by omega) fun i hi => ?_
    exact beq_iff_eq.1 (h i (List.mem_range.2 (by omega)))
  · rintro rfl j _
    exact beq_iff_eq.2 rfl
set_option maxRecDepth 100000 in
theorem run_equal_nums {t : TypeId} {n : Nat} (hu : Try.prog.underlying t = some (.array n 3)) {A B : List Int} (hA : A.length = n) (hB : B.length = n) (w : World) : (Op.equalIn 10000 t (.agg (numC A)) (.agg (numC B))).run Try.prog w = .ok (decide (A = B)) w := by
  obtain ⟨i, hi⟩ := Option.isSome_iff_exists.1 info_int
  have h := items_nums (w := w) 9998 A B (List.range n) (fun j hj => by rw [List.mem_range] at hj; omega)
  rw [run_equalIn_array w 9999 (numC A) (numC B) hu hi, ← all_eq hA hB]
  exact h
theorem run_neq_nums {t : TypeId} {n : Nat} (hu : Try.prog.underlying t = some (.array n 3)) {A B : List Int} (hA : A.length = n) (hB : B.length = n) (w : World) : (binOp .neq t (.agg (numC A)) (.agg (numC B))).run Try.prog w = .ok (.bool (!decide (A = B))) w := by
  have h2 := run_equal_nums hu hA hB w
  simp only [binOp]
  simp [Op.equal, Op.maxDepth, h2]
theorem guard_perm : Try.prog.eqGuardType Try.prog.depth 85 = false := by kernel_rfl
theorem guard_nums {t : TypeId} (ht : Try.prog.eqGuardType Try.prog.depth t = false) (op : BinOp) (x y : Operand) (A B : Array Value) (w : World) : (eqGuard op t x y (.agg A) (.agg B)).run Try.prog w = .ok () w := by
  unfold eqGuard
  cases op <;> first | (simp; done) | simp [ht]

theorem held_range {W : World} {B : Nat} {t : TypeId} {C : Array Value} (h : HeldB W B t C) : W.rangeAt B 0 C.toList := fun j v hv => by
  rw [Nat.zero_add, h.cell j, ← hv]; simp
theorem held_regrown {w : World} {b : Nat} {t : TypeId} {C : Array Value} (h : HeldB w b t C) : ∀ w', (∃ p : Regrown, w' = Sort.grow (redrawn w p.d) p.os) → w'.rangeAt b 0 C.toList := by
  rintro _ ⟨r, rfl⟩
  exact held_range (h.below (below_regrown w r.d r.os))

end Go.Proofs.Ytpgcpmfemcfoaaa

/-
  Is a list a permutation: the model asks it by bits. (Walks.)
-/
namespace Go.Proofs.Ytpgcpmfemcfoaaa
open Go.RowKit

theorem take_mem_succ {l : List Int} {i : Nat} (hi : i < l.length) {P : Int → Prop} (h : ∀ x ∈ l.take i, P x) (hx : P (l.getD i 0)) : ∀ x ∈ l.take (i + 1), P x := by
  intro x hx'
  rw [take_succ_getD l i 0 hi, List.mem_append, List.mem_singleton] at hx'
  rcases hx' with h' | rfl
  · exact h x h'
  · exact hx
theorem getD_mem_list {l : List Int} {i : Nat} (hi : i < l.length) : l.getD i 0 ∈ l := by
  rw [List.getD_eq_getElem?_getD, List.getElem?_eq_getElem hi]; exact List.getElem_mem hi
theorem isP_out {l : List Int} {i : Nat} (hi : i < l.length) (h : l.getD i 0 < 0 ∨ (l.length : Int) ≤ l.getD i 0) : isP l = false := by
  unfold isP; rw [decide_eq_false_iff_not]
  rintro ⟨_, _, h3, _⟩
  have := h3 _ (getD_mem_list hi)
  omega
theorem isP_long {l : List Int} (h : 7 < l.length ∨ l.length < 1) : isP l = false := by
  unfold isP; rw [decide_eq_false_iff_not]; omega
end Go.Proofs.Ytpgcpmfemcfoaaa
