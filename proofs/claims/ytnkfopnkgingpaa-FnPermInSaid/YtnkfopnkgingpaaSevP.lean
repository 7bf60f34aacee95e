
/-
  A permutation put in order. (Plain mathematics: no function is named.)
-/
import Derived.Test.YtnkfopnkgingpaaSevF
namespace Go.Proofs.Ytnkfopnkgingpaa

theorem count_nodup : ∀ (l : List Int) (a : Int), l.Nodup → l.count a = if a ∈ l then 1 else 0
  | [], a, _ => by simp
  | x :: l, a, h => by
    obtain ⟨hn, hd⟩ := List.nodup_cons.1 h
    have ih := count_nodup l a hd
    rw [List.count_cons, ih]
    by_cases hx : x = a
    · subst hx
      rw [if_neg hn, if_pos (by simp), if_pos (by simp)]
    · have hb : (x == a) = false := beq_eq_false_iff_ne.2 hx
      rw [hb]
      have e : (a ∈ x :: l) ↔ a ∈ l := ⟨fun h => (List.mem_cons.1 h).resolve_left (fun e => hx e.symm), List.mem_cons_of_mem _⟩
      by_cases hm : a ∈ l
      · rw [if_pos hm, if_pos (e.2 hm)]; rfl
      · rw [if_neg hm]
        have hn2 : ¬ (a ∈ x :: l) := fun h => hm (e.1 h)
        simp only [hn2, if_false]
        rfl
theorem Few.perm {l : List Int} (h : Few l) : l.Perm (upto l.length) := by
  rw [List.perm_iff_count]
  intro a
  rw [count_nodup _ _ h.nodup, count_nodup _ _ (upto_nodup _)]
  have : a ∈ l ↔ a ∈ upto l.length := by
    rw [mem_upto]
    constructor
    · exact fun hm => h.low a hm
    · intro ha
      have := h.mem (v := a.toNat) (by omega)
      rwa [Int.toNat_of_nonneg ha.1] at this
  by_cases hm : a ∈ l
  · rw [if_pos hm, if_pos (this.1 hm)]
  · rw [if_neg hm, if_neg (fun h => hm (this.2 h))]
theorem upto_sorted (n : Nat) : (upto n).Pairwise (· ≤ ·) := by
  unfold upto
  refine List.Pairwise.map (R := fun a b : Nat => a ≤ b) _ (fun a b h => by omega) ?_
  exact List.pairwise_le_range
theorem upto_at {n i : Nat} (h : i < n) : (upto n).getD i 0 = (i : Int) := by simp [upto, h]

end Go.Proofs.Ytnkfopnkgingpaa
