
/-
  All permutations of so many numbers, in order. (Plain mathematics: no function is named.)
-/
import Derived.Test.YtkpjlglfhhdcbaaSevF
namespace Go.Proofs.Ytkpjlglfhhdcbaa

/-- the permutations of n numbers that begin so: so many numbers are still to come -/
def permK (n : Nat) : Nat → List Int → List (List Int)
  | 0, l => [l]
  | k + 1, l => (List.range n).flatMap fun (x : Nat) => if (x : Int) ∈ l then [] else permK n k (l ++ [(x : Int)])
def permU (n k : Nat) (l : List Int) (m : Nat) : List (List Int) := (List.range m).flatMap fun (x : Nat) => if (x : Int) ∈ l then [] else permK n k (l ++ [(x : Int)])
theorem permK_succ (n k : Nat) (l : List Int) : permK n (k + 1) l = permU n k l n := rfl
theorem permU_zero (n k : Nat) (l : List Int) : permU n k l 0 = [] := rfl
theorem permU_succ (n k : Nat) (l : List Int) (m : Nat) : permU n k l (m + 1) = permU n k l m ++ (if (m : Int) ∈ l then [] else permK n k (l ++ [(m : Int)])) := by
  unfold permU; rw [List.range_succ, List.flatMap_append]; simp
theorem permU_skip {n k : Nat} {l : List Int} {m : Nat} (h : (m : Int) ∈ l) : permU n k l (m + 1) = permU n k l m := by rw [permU_succ, if_pos h, List.append_nil]
theorem permU_step {n k : Nat} {l : List Int} {m : Nat} (h : ¬ (m : Int) ∈ l) : permU n k l (m + 1) = permU n k l m ++ permK n k (l ++ [(m : Int)]) := by rw [permU_succ, if_neg h]
theorem permU_add (n k : Nat) (l : List Int) (m : Nat) : ∀ d, ∃ r, permU n k l (m + d) = permU n k l m ++ r
  | 0 => ⟨[], by simp⟩
  | d + 1 => by
    obtain ⟨r, hr⟩ := permU_add n k l m d
    exact ⟨_, by rw [← Nat.add_assoc, permU_succ, hr, List.append_assoc]⟩
theorem permK_part {n k : Nat} {l : List Int} {m : Nat} (hm : m < n) (h : ¬ (m : Int) ∈ l) : ∃ r, permK n (k + 1) l = permU n k l m ++ permK n k (l ++ [(m : Int)]) ++ r := by
  obtain ⟨r, hr⟩ := permU_add n k l (m + 1) (n - (m + 1))
  rw [show m + 1 + (n - (m + 1)) = n by omega, permU_step h] at hr
  exact ⟨r, by rw [permK_succ, hr]⟩
theorem sum_le (L : List Nat) (c : Nat) (h : ∀ x ∈ L, x ≤ c) : L.sum ≤ L.length * c := by
  induction L with
  | nil => simp
  | cons a t ih =>
    have h1 := h a (by simp)
    have h2 := ih (fun x hx => h x (List.mem_cons_of_mem _ hx))
    rw [List.sum_cons, List.length_cons, Nat.succ_mul]
    omega
theorem permK_len (n : Nat) : ∀ (k : Nat) (l : List Int), (permK n k l).length ≤ n ^ k
  | 0, l => by simp [permK]
  | k + 1, l => by
    unfold permK
    rw [List.length_flatMap]
    refine Nat.le_trans (sum_le _ (n ^ k) fun x hx => ?_) (by rw [List.length_map, List.length_range, Nat.pow_succ, Nat.mul_comm]; exact Nat.le_refl _)
    obtain ⟨y, _, rfl⟩ := List.mem_map.1 hx
    split
    · exact Nat.zero_le _
    · exact permK_len n k _
/-- what begins a permutation of n numbers -/
structure Beg (n k : Nat) (l : List Int) : Prop where
  n7 : n ≤ 7
  len : l.length + k = n
  low : ∀ x ∈ l, 0 ≤ x ∧ x < (n : Int)
  nodup : l.Nodup
theorem Beg.nil {n : Nat} (h : n ≤ 7) : Beg n n [] := ⟨h, by simp, by simp, List.nodup_nil⟩
theorem Beg.few {n : Nat} {l : List Int} (h : Beg n 0 l) : Few l := ⟨by have := h.len; have := h.n7; omega, fun x hx => by have := h.low x hx; have := h.len; omega, h.nodup⟩
theorem Beg.step {n k m : Nat} {l : List Int} (h : Beg n (k + 1) l) (hm : m < n) (hn : ¬ (m : Int) ∈ l) : Beg n k (l ++ [(m : Int)]) := by
  refine ⟨h.n7, by rw [List.length_append, List.length_singleton]; have := h.len; omega, fun x hx => ?_, ?_⟩
  · rw [List.mem_append, List.mem_singleton] at hx
    rcases hx with hx | rfl
    · exact h.low x hx
    · omega
  · rw [List.nodup_append]
    exact ⟨h.nodup, by simp, fun a ha b hb => by rw [List.mem_singleton] at hb; subst hb; rintro rfl; exact hn ha⟩
theorem permK_few {n : Nat} : ∀ (k : Nat) (l : List Int), Beg n k l → ∀ x ∈ permK n k l, Few x ∧ x.length = n
  | 0, l, h, x, hx => by
    unfold permK at hx; rw [List.mem_singleton] at hx; subst hx
    exact ⟨h.few, by have := h.len; omega⟩
  | k + 1, l, h, x, hx => by
    unfold permK at hx
    rw [List.mem_flatMap] at hx
    obtain ⟨y, hy, hx⟩ := hx
    rw [List.mem_range] at hy
    split at hx
    · cases hx
    · next hn => exact permK_few k _ (h.step hy hn) x hx
/-- how many of them are as asked -/
def cntK (ask : List Int → Bool) (L : List (List Int)) : Nat := L.countP ask
theorem cntK_snoc (ask : List Int → Bool) (L : List (List Int)) (x : List Int) : cntK ask (L ++ [x]) = cntK ask L + (if ask x then 1 else 0) := by
  unfold cntK; rw [List.countP_append, List.countP_singleton]
theorem cntK_add (ask : List Int → Bool) (L M : List (List Int)) : cntK ask (L ++ M) = cntK ask L + cntK ask M := List.countP_append
theorem cntK_le (ask : List Int → Bool) (L : List (List Int)) : cntK ask L ≤ L.length := List.countP_le_length

/-! # seven numbers, the one behind the last one being written -/
theorem map_set_pad {l : List Int} (h7 : l.length < 7) (m : Int) : (padL l).set l.length (m + 1) = padL (l ++ [m]) := by
  unfold padL
  rw [List.set_append_right _ _ (by simp), List.length_map, Nat.sub_self, List.map_append, List.length_append, List.length_singleton, List.append_assoc]
  obtain ⟨j, hj⟩ : ∃ j, 7 - l.length = j + 1 := ⟨6 - l.length, by omega⟩
  rw [hj, show 7 - (l.length + 1) = j by omega, List.replicate_succ]
  rfl
theorem pad_set_same {l : List Int} (h7 : l.length < 7) : (padL l).set l.length 0 = padL l := by
  unfold padL
  rw [List.set_append_right _ _ (by simp), List.length_map, Nat.sub_self]
  obtain ⟨j, hj⟩ : ∃ j, 7 - l.length = j + 1 := ⟨6 - l.length, by omega⟩
  rw [hj, List.replicate_succ]
  rfl
theorem pad_set_take (l : List Int) (y : Int) : ((padL l).set l.length y).take l.length = l.map (· + 1) := by
  rw [List.take_set_of_le (Nat.le_refl _)]
  unfold padL
  rw [List.take_append_of_le_length (by simp), List.take_of_length_le (by simp)]
theorem mem_up {l : List Int} {m : Int} : (m + 1) ∈ l.map (· + 1) ↔ m ∈ l := by
  rw [List.mem_map]
  constructor
  · rintro ⟨a, ha, e⟩
    have : a = m := by omega
    rw [← this]; exact ha
  · exact fun h => ⟨m, h, rfl⟩

end Go.Proofs.Ytkpjlglfhhdcbaa
