
/-
  Merged texts: LawB LawC LawH LawI Same.
-/
import Derived.Test.YtpgcpmfemcfoaaaLawK
import Derived.Test.YtpgcpmfemcfoaaaMathCE
import Derived.BigQuiet

/-
  The helpers of the laws that mark a result's memory and look whether the marks have stayed. (Walks.)
-/
namespace Go.Proofs.Ytpgcpmfemcfoaaa
open Go.RowKit

/-- the digits of a number from 1 on; none of 0 -/
def digs : Nat → Nat → List UInt8
  | 0, _ => []
  | f + 1, n => if n = 0 then [] else digs f (n / 10) ++ [UInt8.ofNat (48 + n % 10)]

theorem digs_step (f q : Nat) (h : 0 < q) : digs (f + 1) q = digs f (q / 10) ++ [UInt8.ofNat (48 + q % 10)] := by
  rw [digs, if_neg (by omega)]

/-- enough fuel is enough -/
theorem digs_fuel : ∀ (f g q : Nat), q < 2 ^ f → f ≤ g → digs g q = digs f q
  | 0, g, q, h, _ => by
    obtain rfl : q = 0 := by omega
    cases g with
    | zero => rfl
    | succ g => rfl
  | f + 1, g + 1, q, h, hg => by
    by_cases h0 : q = 0
    · subst h0; rfl
    · rw [digs_step g q (by omega), digs_step f q (by omega), digs_fuel f g (q / 10) (by omega) (by omega)]
  | f + 1, 0, q, _, hg => by omega

theorem digs_len : ∀ (f q : Nat), (digs f q).length ≤ f
  | 0, _ => Nat.le_refl _
  | f + 1, q => by
    rw [digs]
    split
    · simp
    · rw [List.length_append]; have := digs_len f (q / 10); simp; omega

def markS (k : Int) : ByteArray := if k ≤ 0 then ⟨#[109, 48]⟩ else ⟨(109 :: digs 64 k.toNat).toArray⟩

/-- the marks that the laws write: from number k on, n of them -/
def marks (k n : Nat) : List ByteArray := (List.range n).map fun i => markS ((k + i : Nat) : Int)

theorem marks_len (k n : Nat) : (marks k n).length = n := by simp [marks]
theorem marks_succ (k n : Nat) : marks k (n + 1) = marks k n ++ [markS ((k + n : Nat) : Int)] := by
  simp [marks, List.range_succ]
theorem marks_getD (k n j : Nat) (h : j < n) : (marks k n).getD j ByteArray.empty = markS ((k + j : Nat) : Int) := by
  simp [marks, h]

end Go.Proofs.Ytpgcpmfemcfoaaa

/-
  The law on the question whether a list is a plan. (Walk.)
-/
namespace Go.Proofs.Ytpgcpmfemcfoaaa
open Go.RowKit

theorem szFn_bound : ∀ (l : List ByteArray) (n : Int), ¬ szFn l n < 0 → szFn l n ≤ n ∧ ∀ s ∈ l, (s.size : Int) ≤ n
  | [], n, _ => ⟨Int.le_refl _, fun s hs => by cases hs⟩
  | s :: l, n, h => by
    rw [szFn] at h ⊢
    by_cases hn : n - (s.size : Int) < 0
    · rw [if_pos hn] at h; omega
    · rw [if_neg hn] at h ⊢
      have := szFn_bound l _ h
      refine ⟨by omega, fun t ht => ?_⟩
      rcases List.mem_cons.1 ht with rfl | ht
      · omega
      · have := this.2 t ht; omega

/-- lists that the laws ask of are small -/
theorem szAll_bound {l : List ByteArray} {n : Int} (h : ¬ szAll l n < 0) : szAll l n ≤ n ∧ (l.length : Int) ≤ n ∧ ∀ s ∈ l, (s.size : Int) ≤ n := by
  unfold szAll at h ⊢
  by_cases hn : n - (l.length : Int) < 0
  · rw [if_pos hn] at h; omega
  · rw [if_neg hn] at h ⊢
    have := szFn_bound l _ h
    exact ⟨by omega, by omega, fun s hs => by have := this.2 s hs; omega⟩

end Go.Proofs.Ytpgcpmfemcfoaaa
