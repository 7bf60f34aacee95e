
/-
  Longest growing parts, as two lists that are filled. (Plain mathematics.)
-/
import Derived.Test.YtiaimcedcjapdaaOrdK
namespace Go.Proofs.Ytiaimcedcjapdaa

/-- a list that is told up to a place, with a number there, and none behind it -/
def arrL (h : Nat → Nat) (r i v : Nat) : List Nat := (List.range r).map fun j => if j < i then h j + 1 else if j = i then v else 0
theorem arrL_len (h : Nat → Nat) (r i v : Nat) : (arrL h r i v).length = r := by simp [arrL]
theorem arrL_at {h : Nat → Nat} {r i v j : Nat} (hj : j < r) : (arrL h r i v).getD j 0 = if j < i then h j + 1 else if j = i then v else 0 := by simp [arrL, hj]
theorem arrL_here {h : Nat → Nat} {r i v : Nat} (hi : i < r) : (arrL h r i v).getD i 0 = v := by rw [arrL_at hi, if_neg (by omega), if_pos rfl]
theorem arrL_ahead {h : Nat → Nat} {r i v j : Nat} (hj : j < i) (hi : i < r) : (arrL h r i v).getD j 0 = h j + 1 := by rw [arrL_at (by omega), if_pos hj]
theorem arrL_zero (h : Nat → Nat) (r : Nat) : arrL h r 0 0 = List.replicate r 0 := by
  refine List.ext_getElem (by rw [arrL_len, List.length_replicate]) fun j h1 h2 => ?_
  simp [arrL]
theorem arrL_put {h : Nat → Nat} {r i v w : Nat} (_hi : i < r) : (arrL h r i v).set i w = arrL h r i w := by
  refine List.ext_getElem (by rw [List.length_set, arrL_len, arrL_len]) fun j h1 h2 => ?_
  rw [List.getElem_set]
  have hj : j < r := by rwa [arrL_len] at h2
  by_cases e : i = j
  · subst e; rw [if_pos rfl]; simp [arrL]
  · rw [if_neg e]
    simp only [arrL, List.getElem_map, List.getElem_range]
    by_cases k : j < i
    · rw [if_pos k, if_pos k]
    · rw [if_neg k, if_neg k, if_neg (by omega), if_neg (by omega)]
theorem arrL_next {h : Nat → Nat} {r i : Nat} (_hi : i < r) : arrL h r i (h i + 1) = arrL h r (i + 1) 0 := by
  refine List.ext_getElem (by rw [arrL_len, arrL_len]) fun j h1 h2 => ?_
  simp only [arrL, List.getElem_map, List.getElem_range]
  by_cases k : j < i
  · rw [if_pos k, if_pos (by omega)]
  · by_cases e : j = i
    · subst e; rw [if_neg k, if_pos rfl, if_pos (by omega)]
    · rw [if_neg k, if_neg e, if_neg (by omega)]
      split <;> rfl
/-- the greatest so far, of those that are earlier -/
def gU (f : Nat → Nat → Bool) (r i k : Nat) : Nat := gM f (fun a => sumS f (fun _ => 1) r a + 1) i k
theorem gU_zero (f : Nat → Nat → Bool) (r i : Nat) : gU f r i 0 = 0 := rfl
theorem gU_yes {f : Nat → Nat → Bool} {r i k : Nat} (h : f k i = true) : gU f r i (k + 1) + 1 = max (gU f r i k + 1) (sumS f (fun _ => 1) r k + 1 + 1) := by
  unfold gU; rw [gM_yes h]; omega
theorem gU_no {f : Nat → Nat → Bool} {r i k : Nat} (h : f k i = false) : gU f r i (k + 1) = gU f r i k := gM_no h
theorem gM_stop {f : Nat → Nat → Bool} {v : Nat → Nat} {b i : Nat} (h : ∀ a, i ≤ a → f a b = false) : ∀ n, gM f v b (i + n) = gM f v b i
  | 0 => rfl
  | n + 1 => by rw [← Nat.add_assoc, gM_no (h _ (by omega)), gM_stop h n]
theorem gU_all {f q : Nat → Nat → Bool} {r i : Nat} (G : Goes f q r) (hi : i < r) (h : ∀ a, i ≤ a → f a i = false) : gU f r i i = sumS f (fun _ => 1) r i := by
  unfold gU
  rw [← G.sum_fix (d := fun _ => 1) hi, ← gM_stop (v := fun a => sumS f (fun _ => 1) r a + 1) h (r - i), show i + (r - i) = r by omega]
theorem lis_ahead (x : List Nat) (r : Nat) : (∀ i a, i ≤ a → lisU x r a i = false) ∧ (∀ i a, i ≤ a → lisD x r a i = false) :=
  ⟨fun i a h => by unfold lisU; rw [decide_eq_false (by omega)]; rfl, fun i a h => by unfold lisD; rw [decide_eq_false (by omega)]; rfl⟩
theorem lis_two {x : List Nat} {r k i : Nat} (hk : k < i) (hi : i < r) : lisU x r k i = decide (x.getD k 0 < x.getD i 0) ∧ lisD x r k i = !decide (x.getD k 0 < x.getD i 0) := by
  unfold lisU lisD
  rw [decide_eq_true hk, decide_eq_true hi]
  refine ⟨rfl, ?_⟩
  rw [Bool.true_and, Bool.true_and, decide_not]
theorem sum_ones_few {f q : Nat → Nat → Bool} {r b : Nat} (G : Goes f q r) (hb : b < r) (hr : r ≤ 9) : sumS f (fun _ => 1) r b ≤ 72 := G.sum_few (fun _ _ => by omega) hb hr
theorem gU_few {f q : Nat → Nat → Bool} {r i k : Nat} (G : Goes f q r) (_hi : i < r) (hr : r ≤ 9) (hk : k ≤ r) : gU f r i k ≤ 73 := by
  unfold gU
  rw [gM_le]
  intro a ha _
  have := sum_ones_few G (show a < r by omega) hr
  show sumS f (fun _ => 1) r a + 1 ≤ 73
  omega
theorem eM_succ (v : Nat → Nat) (i : Nat) : eM v (i + 1) = max (eM v i) (v i) := rfl
theorem eM_few {v : Nat → Nat} {m : Nat} (h : ∀ a, v a ≤ m) (i : Nat) : eM v i ≤ m := (eM_le i).2 fun a _ => h a
theorem max_up (y z : Nat) : (if (y : Int) < (z : Int) then (z : Int) else (y : Int)) = ((max y z : Nat) : Int) := by split <;> omega
theorem max_up1 (y z : Nat) : (if (y : Int) < (z : Int) + 1 then (z : Int) + 1 else (y : Int)) = ((max y (z + 1) : Nat) : Int) := by split <;> omega
end Go.Proofs.Ytiaimcedcjapdaa
