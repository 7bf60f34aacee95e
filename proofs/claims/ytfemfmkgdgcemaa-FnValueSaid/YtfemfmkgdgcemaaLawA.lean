
/-
  The helpers of the laws over lists of texts: sizes, copies, comparing. (Walks.)
-/
import Derived.Test.YtfemfmkgdgcemaaRows
import Derived.Test.YtfemfmkgdgcemaaBase
namespace Go.Proofs.Ytfemfmkgdgcemaa
open Go.RowKit

/-- what is left of 'left' behind the strings' lengths, or -1 -/
def szFn : List ByteArray → Int → Int
  | [], n => n
  | s :: l, n => if n - (s.size : Int) < 0 then -1 else szFn l (n - s.size)

def szAll (l : List ByteArray) (left : Int) : Int := if left - (l.length : Int) < 0 then -1 else szFn l (left - l.length)

theorem szFn_lt (l : List ByteArray) (k : Nat) (n : Int) (h : k < l.length) (hn : n - ((l.getD k ByteArray.empty).size : Int) < 0) : szFn (l.drop k) n = -1 := by
  rw [drop_getD l k ByteArray.empty h, szFn, if_pos hn]
theorem szFn_ge (l : List ByteArray) (k : Nat) (n : Int) (h : k < l.length) (hn : 0 ≤ n - ((l.getD k ByteArray.empty).size : Int)) : szFn (l.drop k) n = szFn (l.drop (k + 1)) (n - (l.getD k ByteArray.empty).size) := by
  rw [drop_getD l k ByteArray.empty h, szFn, if_neg (by omega)]

/-- two lists of texts are equal -/
def eqS (l m : List ByteArray) : Bool := decide (l = m)

theorem eqS_no {l m : List ByteArray} {k : Nat} (h : l.getD k ByteArray.empty ≠ m.getD k ByteArray.empty) : eqS l m = false := by
  unfold eqS; rw [decide_eq_false_iff_not]; rintro rfl; exact h rfl
theorem eqS_len {l m : List ByteArray} (h : l.length ≠ m.length) : eqS l m = false := by
  unfold eqS; rw [decide_eq_false_iff_not]; rintro rfl; exact h rfl
theorem eqS_all {l m : List ByteArray} {k : Nat} (hlen : l.length = m.length) (hk : ¬ k < l.length) (h : l.take k = m.take k) : eqS l m = true := by
  unfold eqS; rw [decide_eq_true_iff]
  rwa [List.take_of_length_le (by omega), List.take_of_length_le (by omega)] at h
theorem eqS_step {l m : List ByteArray} {k : Nat} (h1 : k < l.length) (h2 : k < m.length) (h : l.take k = m.take k) (he : l.getD k ByteArray.empty = m.getD k ByteArray.empty) : l.take (k + 1) = m.take (k + 1) := by
  rw [take_succ_getD l k ByteArray.empty h1, take_succ_getD m k ByteArray.empty h2, h, he]

theorem Try.infoStr : (Try.prog.info? 9).map (fun i => (i.zero, i.size, i.bytes)) = some (some (.string ⟨#[]⟩), 1, 16) := by kernel_rfl

end Go.Proofs.Ytfemfmkgdgcemaa
