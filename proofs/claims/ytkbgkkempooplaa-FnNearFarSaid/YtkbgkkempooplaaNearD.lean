
/-
  What the laws of neighbours and of ways ask. (Plain mathematics.)
-/
import Derived.Test.YtkbgkkempooplaaBfsW

namespace Go.Proofs.Ytkbgkkempooplaa
open Go.RowKit

theorem dst_symm {p : List ByteArray} (h : planB p = true) {a b : Nat} (ha : a < gridR p) (hb : b < gridR p) : dstP p b a = dstP p a b :=
  bfsB_symm ha hb (fun y => adjF_lt (bsF p) (gridR p) y) (fun x y hx hy => by
    obtain ⟨h1, h2⟩ := adjF_mem.1 hy
    exact adjF_mem.2 ⟨hx, by rw [besN_symm h]; exact h2⟩) (dstP_pos h ha hb)
theorem dst_two {p : List ByteArray} {a b : Nat} (ha : a < gridR p) (hb : b < gridR p) (hn : 0 < besN p (a : Int) (b : Int)) : dstP p a b = 2 := by
  have hne : a ≠ b := fun e => by
    subst e
    unfold besN at hn; rw [if_pos rfl] at hn; omega
  exact bfsB_two ha (fun y => adjF_lt (bsF p) (gridR p) y) hne (adjF_mem.2 ⟨hb, hn⟩)
theorem dst_tri {p : List ByteArray} (h : planB p = true) {a x b : Nat} (ha : a < gridR p) (hx : x < gridR p) (hb : b < gridR p) (hn : 0 < besN p (a : Int) (x : Int)) : dstP p a b ≤ dstP p x b + 1 :=
  bfsB_tri ha hx (fun y => adjF_lt (bsF p) (gridR p) y) (adjF_mem.2 ⟨hx, hn⟩) (dstP_pos h hx hb)
theorem dst_self {p : List ByteArray} {a : Nat} : dstP p a a = 1 := bfsB_start a _
theorem dst_one {p : List ByteArray} {a b : Nat} (ha : a < gridR p) (h : dstP p a b = 1) : b = a := bfsB_one ha (fun y => adjF_lt (bsF p) (gridR p) y) _ b h

theorem wayOk_iff {p : List ByteArray} {a b : Int} (h : wayOk p a b = true) : planB p = true ∧ ∃ k m : Nat, a = (k : Int) ∧ b = (m : Int) ∧ k < gridR p ∧ m < gridR p := by
  unfold wayOk at h
  rw [Bool.and_eq_true, given_isRm, given_isRm, Bool.and_eq_true, Bool.and_eq_true, isRm_iff, isRm_iff] at h
  obtain ⟨⟨hp, h1⟩, ⟨_, h2⟩⟩ := h
  exact ⟨hp, a.toNat, b.toNat, by omega, by omega, by omega, by omega⟩
theorem wayOk_of {p : List ByteArray} (h : planB p = true) {a b : Nat} (ha : a < gridR p) (hb : b < gridR p) : wayOk p (a : Int) (b : Int) = true ∧ wayN p (a : Int) (b : Int) = dstP p a b - 1 := by
  have h1 : wayOk p (a : Int) (b : Int) = true := by
    unfold wayOk
    rw [given_isRm, given_isRm, h, Bool.true_and, Bool.true_and, Bool.and_eq_true, isRm_iff, isRm_iff]; omega
  exact ⟨h1, by unfold wayN; rw [if_pos h1]; rfl⟩

/-- of two neighbours -/
theorem near_math {p : List ByteArray} {a b : Int} (h : nearIs p a b = true) : nlenOk p a b = true ∧ 1 ≤ nlenN p a b ∧ nlenN p a b ≤ 60 ∧ wayOk p a b = true ∧ wayN p a b = 1 ∧ nearIs p b a = true := by
  have h0 := h
  rw [nearIs_len, Bool.and_eq_true, decide_eq_true_eq] at h
  obtain ⟨h1, h2⟩ := h
  unfold nearIs at h0
  rw [Bool.and_eq_true, Bool.and_eq_true, decide_eq_true_eq] at h0
  obtain ⟨ga, gb, hn⟩ := h0
  have hw : wayOk p a b = true := by unfold wayOk; rw [ga, gb]; rfl
  obtain ⟨hp, k, m, rfl, rfl, hk, hm⟩ := wayOk_iff hw
  refine ⟨h1, h2, nlenN_le p _ _, hw, ?_, ?_⟩
  · rw [(wayOk_of hp hk hm).2, dst_two hk hm hn]
  · unfold nearIs
    rw [ga, gb, besN_symm hp]
    simpa using hn

/-- of ways between two rooms -/
theorem way_math {p : List ByteArray} {a b : Int} (h : wayOk p a b = true) : wayOk p b a = true ∧ wayN p b a = wayN p a b ∧ (wayN p a b = 0 ↔ a = b) ∧ wayN p a b ≤ 9 ∧ givenB p a = true ∧ (nearL p a).length ≤ 9 ∧
    ∀ i, i < (nearL p a).length → wayOk p ((nearL p a).getD i 0) b = true ∧ wayN p a b ≤ wayN p ((nearL p a).getD i 0) b + 1 ∧ wayN p ((nearL p a).getD i 0) b ≤ 9 := by
  have hle := wayN_le p a b
  have ga : givenB p a = true := by unfold wayOk at h; rw [Bool.and_eq_true] at h; exact h.1
  obtain ⟨hp, k, m, rfl, rfl, hk, hm⟩ := wayOk_iff h
  obtain ⟨o1, n1⟩ := wayOk_of hp hk hm
  obtain ⟨o2, n2⟩ := wayOk_of hp hm hk
  have hps := dstP_pos hp hk hm
  have hL : nearL p (k : Int) = ofL p (k : Int) (gridR p) := by unfold nearL; rw [ga]; rfl
  refine ⟨o2, by rw [n1, n2, dst_symm hp hk hm], ?_, hle, ga, ?_, fun i hi => ?_⟩
  · rw [n1]
    constructor
    · intro h0
      have := dst_one hk (show dstP p k m = 1 by omega)
      omega
    · intro e
      obtain rfl : k = m := by omega
      rw [dst_self]
  · rw [hL]
    have := ofL_le p (k : Int) (gridR p)
    have := (planP_of hp).few
    omega
  · rw [hL] at hi ⊢
    obtain ⟨x, e, hx, hn⟩ := ofL_mem (getD_mem 0 hi)
    rw [e]
    obtain ⟨o3, n3⟩ := wayOk_of hp hx hm
    have hpx := dstP_pos hp hx hm
    have := dst_tri hp hk hx hm hn
    exact ⟨o3, by rw [n1, n3]; omega, wayN_le p _ _⟩

end Go.Proofs.Ytkbgkkempooplaa
