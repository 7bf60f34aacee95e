
/-
  The model's plans: letters and rows. (Walks.)
-/
import Derived.Test.YtfemfmkgdgcemaaRows
import Derived.Test.YtfemfmkgdgcemaaBase
namespace Go.Proofs.Ytfemfmkgdgcemaa
open Go.RowKit

def l6B (n lo hi : Int) : Bool := decide (lo ≤ n ∧ n ≤ hi)
theorem l6B_true {n lo hi : Int} (h1 : lo ≤ n) (h2 : n ≤ hi) : l6B n lo hi = true := by simp [l6B, h1, h2]
theorem l6B_lo {n lo hi : Int} (h1 : ¬ lo ≤ n) : l6B n lo hi = false := by simp [l6B, h1]
theorem l6B_hi {n lo hi : Int} (h1 : ¬ n ≤ hi) : l6B n lo hi = false := by simp [l6B, h1]

set_option maxHeartbeats 400000 in
theorem l6In_any (n lo hi : Int) (w : World) :
    Calls Try.prog 44 #[.int .i64 n, .int .i64 lo, .int .i64 hi] w
      fun e w' => e = .returned (.bool (l6B n lo hi)) ∧ w' = w := by
  by_cases h1 : lo ≤ n
  · by_cases h2 : n ≤ hi
    · have HB := Lib.hid (l6B_true h1 h2)
      go_enter Try.func44, Try.ntmps44
      go_wp2
      go_ret
      exact ⟨ret_bool HB.out.symm, rfl⟩
    · have HB := Lib.hid (@l6B_hi n lo hi h2)
      go_enter Try.func44, Try.ntmps44
      go_wp2
      go_ret
      exact ⟨ret_bool HB.out.symm, rfl⟩
  · have HB := Lib.hid (@l6B_lo n lo hi h1)
    go_enter Try.func44, Try.ntmps44
    go_wp2
    go_ret
    exact ⟨ret_bool HB.out.symm, rfl⟩

/-- small letters alone -/
def smallB (l : List UInt8) : Bool := l.all fun c => decide (97 ≤ c.toNat ∧ c.toNat ≤ 122)
/-- a row of m small letters -/
def rowB (m : Nat) (s : ByteArray) : Bool := decide (s.size = m) && l6B s.size 1 6 && smallB s.data.toList
/-- one to six rows, each of as many small letters -/
def gridB (l : List ByteArray) : Bool := l.all (rowB (l.getD 0 ByteArray.empty).size) && l6B l.length 1 6

theorem smallB_no {l : List UInt8} {k : Nat} (h : k < l.length) (hc : ¬ (97 ≤ (l.getD k 0).toNat ∧ (l.getD k 0).toNat ≤ 122)) : smallB l = false := by
  rw [Bool.eq_false_iff]
  intro hh
  rw [smallB, List.all_eq_true] at hh
  have := hh _ (getD_mem 0 h)
  simp only [decide_eq_true_eq] at this
  exact hc this

theorem smallB_step {l : List UInt8} {k : Nat} (h : k < l.length) (hs : smallB (l.take k) = true) (hc : 97 ≤ (l.getD k 0).toNat ∧ (l.getD k 0).toNat ≤ 122) : smallB (l.take (k + 1)) = true := by
  unfold smallB at hs ⊢
  rw [take_succ_getD l k 0 h, List.all_append, hs]
  simpa using hc

theorem gridB_no {l : List ByteArray} {k : Nat} (h : k < l.length) (hr : rowB (l.getD 0 ByteArray.empty).size (l.getD k ByteArray.empty) = false) : gridB l = false := by
  rw [gridB, Bool.and_eq_false_iff]
  left
  rw [Bool.eq_false_iff]
  intro hh
  rw [List.all_eq_true] at hh
  have := hh _ (getD_mem ByteArray.empty h)
  rw [hr] at this
  exact Bool.noConfusion this

theorem rowB_size {m : Nat} {s : ByteArray} (h : ¬ s.size = m) : rowB m s = false := by unfold rowB; rw [decide_eq_false h]; rfl
theorem rowB_six {m : Nat} {s : ByteArray} (h : l6B s.size 1 6 = false) : rowB m s = false := by unfold rowB; rw [h, Bool.and_false]; rfl
theorem rowB_small {m : Nat} {s : ByteArray} (h : smallB s.data.toList = false) : rowB m s = false := by unfold rowB; rw [h, Bool.and_false]
theorem rowB_ok {m : Nat} {s : ByteArray} (h1 : s.size = m) (h2 : l6B s.size 1 6 = true) (h3 : smallB s.data.toList = true) : rowB m s = true := by unfold rowB; rw [h2, h3, decide_eq_true h1]; rfl

end Go.Proofs.Ytfemfmkgdgcemaa
