/-
  Merged texts: TightN Perm Euler.
-/
import Derived.Test.YtpgcpmfemcfoaaaTightMR
import Derived.Test.YtpgcpmfemcfoaaaIsR
import Derived.Test.YtpgcpmfemcfoaaaTurnsR
import Derived.Test.YtpgcpmfemcfoaaaBytesR
import Derived.Test.YtpgcpmfemcfoaaaAreasR
import Derived.Test.YtpgcpmfemcfoaaaOrdJR
import Derived.Test.YtpgcpmfemcfoaaaMeetR
import Derived.Test.YtpgcpmfemcfoaaaCutR
import Derived.Test.YtpgcpmfemcfoaaaMathFR
import Derived.Deep.RegionHeld3
import Derived.Deep.AppendLies

/-
  Plans made tight: the rows and columns that are kept, and that what is tight stays as it is. (Mathematics.)
-/
namespace Go.Proofs.Ytpgcpmfemcfoaaa
open Go.RowKit

end Go.Proofs.Ytpgcpmfemcfoaaa

/-
  Merged texts: Pair BesM Perm.
-/
/-
  Plans beside each other and below each other, and rows and columns exchanged. (Mathematics.)
-/
namespace Go.Proofs.Ytpgcpmfemcfoaaa
open Go.RowKit

end Go.Proofs.Ytpgcpmfemcfoaaa

/-
  Plans beside each other: their rooms, and read backwards. (Mathematics.)
-/
namespace Go.Proofs.Ytpgcpmfemcfoaaa
open Go.RowKit

theorem Is.rooms {p : List ByteArray} {h wd : Nat} {m : Nat → Nat → Nat} (x : Is p h wd m) : roomsOr p = ((markF h wd m).length : Nat) := by
  have hP := planP_of x.plan
  rw [roomsOr_yes x.plan, hP.rooms]
  unfold gridR
  have e1 := markF_len (ren_pattern p.length (wideB p) (markN p))
  have e2 := markF_len x.same
  rw [x.len, x.wide] at e1
  rw [x.len, x.wide]
  rw [show gridG p = renG h wd (markN p) by unfold gridG; rw [x.len, x.wide]] at e2
  omega
end Go.Proofs.Ytpgcpmfemcfoaaa

/-
  Merged texts: PermM.
-/
/-
  Areas of plans turned are the same ones in some order. (Mathematics.)
-/
namespace Go.Proofs.Ytpgcpmfemcfoaaa
open Go.RowKit

theorem sumN_rev (n : Nat) (f : Nat → Nat) : sumN n (fun i => f (n - 1 - i)) = sumN n f := by
  induction n generalizing f with
  | zero => rfl
  | succ n ih =>
    have e1 : sumN (n + 1) f = f 0 + sumN n (fun i => f (i + 1)) := by
      have : ∀ n, sumN (n + 1) f = f 0 + sumN n (fun i => f (i + 1)) := fun n => by
        induction n with
        | zero => simp [sumN]
        | succ n ih => rw [sumN, ih, sumN]; omega
      exact this n
    rw [e1, sumN, ← ih (fun i => f (i + 1))]
    have e2 : sumN n (fun i => f (n + 1 - 1 - i)) = sumN n (fun i => f (n - 1 - i + 1)) := sumN_congr fun i hi => by congr 1; omega
    rw [e2, show n + 1 - 1 - n = 0 by omega]
    omega
end Go.Proofs.Ytpgcpmfemcfoaaa

/-
  Merged texts: Eul Tig.
-/
/-
  Rooms are walls, crosses and one; walls have two ends; crosses are as many when turned. (Mathematics.)
-/
namespace Go.Proofs.Ytpgcpmfemcfoaaa
open Go.RowKit

/-! ### ends, one by one -/
/-! ### rooms, told by their first cells -/
/-! ### as many first cells as rooms -/
/-! ### crosses of plans that are turned -/
theorem sumN_first (f : Nat → Nat) : ∀ n, sumN (n + 1) f = f 0 + sumN n (fun i => f (i + 1))
  | 0 => by simp [sumN]
  | n + 1 => by rw [sumN, sumN_first f n, sumN]; omega
theorem range_sumN (f : Nat → Nat) : ∀ n, ((List.range n).map f).sum = sumN n f
  | 0 => rfl
  | n + 1 => by rw [List.range_succ, List.map_append, List.sum_append, range_sumN f n, sumN]; simp
theorem countP_sumN (q : Nat → Bool) : ∀ n, (List.range n).countP q = sumN n (fun i => if q i = true then 1 else 0)
  | 0 => rfl
  | n + 1 => by rw [List.range_succ, List.countP_append, countP_sumN q n, sumN, List.countP_singleton]
/-- how many points have so many rooms -/
def metC (h wd : Nat) (g : Nat → Nat → Nat) (m : Nat) : Nat := cntG h wd (fun i k => metG g m i k)
theorem ptsG_cnt (h wd : Nat) (g : Nat → Nat → Nat) (m : Nat) : ptsG h wd g m = metC h wd g m := by
  unfold ptsG metC cntG
  rw [range_sumN]
  exact sumN_congr fun i _ => countP_sumN _ _
theorem meetG_four (g : Nat → Nat → Nat) (i k : Nat) : meetG g i k = 4 ↔ g (i - 1) k ≠ g (i - 1) (k - 1) ∧ g i (k - 1) ≠ g (i - 1) (k - 1) ∧ g i (k - 1) ≠ g (i - 1) k ∧ g i k ≠ g (i - 1) (k - 1) ∧ g i k ≠ g (i - 1) k ∧ g i k ≠ g i (k - 1) := by
  unfold meetG
  generalize g (i - 1) (k - 1) = a
  generalize g (i - 1) k = b
  generalize g i (k - 1) = c
  generalize g i k = d
  have h1 := b2n_le (decide (b ≠ a))
  have h2 := b2n_le (decide (c ≠ a) && decide (c ≠ b))
  have h3 := b2n_le (decide (d ≠ a) && (decide (d ≠ b) && decide (d ≠ c)))
  have e : ∀ x : Bool, b2n x = 1 ↔ x = true := fun x => by cases x <;> simp [b2n]
  constructor
  · intro h
    have a1 := (e _).1 (show b2n (decide (b ≠ a)) = 1 by omega)
    have a2 := (e _).1 (show b2n (decide (c ≠ a) && decide (c ≠ b)) = 1 by omega)
    have a3 := (e _).1 (show b2n (decide (d ≠ a) && (decide (d ≠ b) && decide (d ≠ c))) = 1 by omega)
    simp only [Bool.and_eq_true, decide_eq_true_eq] at a1 a2 a3
    exact ⟨a1, a2.1, a2.2, a3.1, a3.2.1, a3.2.2⟩
  · rintro ⟨a, b, c, d, e, f⟩
    rw [decide_eq_true a, decide_eq_true b, decide_eq_true c, decide_eq_true d, decide_eq_true e, decide_eq_true f]
    rfl
theorem metC_same {h wd : Nat} {m m' : Nat → Nat → Nat} (hs : SameG h wd m m') : metC h wd m' 4 = metC h wd m 4 := by
  unfold metC
  refine cntG_congr fun i k hi hk => ?_
  unfold metG
  by_cases h1 : 1 ≤ i
  · by_cases h2 : 1 ≤ k
    · rw [decide_eq_true h1, decide_eq_true h2, Bool.true_and, Bool.true_and]
      refine decide_eq_decide.2 ?_
      rw [meetG_four, meetG_four]
      have s1 := hs (i - 1) (k - 1) (i - 1) k (by omega) (by omega) (by omega) hk
      have s2 := hs (i - 1) (k - 1) i (k - 1) (by omega) (by omega) hi (by omega)
      have s3 := hs (i - 1) k i (k - 1) (by omega) hk hi (by omega)
      have s4 := hs (i - 1) (k - 1) i k (by omega) (by omega) hi hk
      have s5 := hs (i - 1) k i k (by omega) hk hi hk
      have s6 := hs i (k - 1) i k hi (by omega) hi hk
      rw [ne_eq, ne_eq, ne_eq, ne_eq, ne_eq, ne_eq, s1, s2, s3, s4, s5, s6]
    · rw [decide_eq_false h2]; simp
  · rw [decide_eq_false h1]; simp
theorem metC_trans (h wd : Nat) (m : Nat → Nat → Nat) : metC wd h (fun i j => m j i) 4 = metC h wd m 4 := by
  unfold metC cntG
  rw [sumN_comm]
  refine sumN_congr fun i _ => sumN_congr fun k _ => ?_
  have : metG (fun i j => m j i) 4 k i = metG m 4 i k := by
    unfold metG
    rw [Bool.eq_iff_iff]
    simp only [Bool.and_eq_true, decide_eq_true_eq, meetG_four]
    constructor
    · rintro ⟨⟨a, b⟩, c1, c2, c3, c4, c5, c6⟩; exact ⟨⟨b, a⟩, c2, c1, Ne.symm c3, c4, c6, c5⟩
    · rintro ⟨⟨a, b⟩, c1, c2, c3, c4, c5, c6⟩; exact ⟨⟨b, a⟩, c2, c1, Ne.symm c3, c4, c6, c5⟩
  simp only [this]
theorem metC_flip (h wd : Nat) (m : Nat → Nat → Nat) : metC h wd (fun i j => m i (wd - 1 - j)) 4 = metC h wd m 4 := by
  unfold metC cntG
  refine sumN_congr fun i _ => ?_
  cases wd with
  | zero => rfl
  | succ n =>
    rw [sumN_first, sumN_first]
    dsimp only
    have z : ∀ g : Nat → Nat → Nat, metG g 4 i 0 = false := fun g => by unfold metG; simp
    simp only [z]
    congr 1
    rw [← sumN_rev n]
    refine sumN_congr fun k hk => ?_
    have : metG (fun i j => m i (n + 1 - 1 - j)) 4 i (n - 1 - k + 1) = metG m 4 i (k + 1) := by
      unfold metG
      rw [Bool.eq_iff_iff]
      simp only [Bool.and_eq_true, decide_eq_true_eq, meetG_four]
      rw [show n + 1 - 1 - (n - 1 - k + 1 - 1) = k + 1 by omega, show n + 1 - 1 - (n - 1 - k + 1) = k by omega, show k + 1 - 1 = k by omega]
      constructor
      · rintro ⟨⟨a, b⟩, c1, c2, c3, c4, c5, c6⟩; exact ⟨⟨a, by omega⟩, Ne.symm c1, c5, c4, c3, c2, Ne.symm c6⟩
      · rintro ⟨⟨a, b⟩, c1, c2, c3, c4, c5, c6⟩; exact ⟨⟨a, by omega⟩, Ne.symm c1, c5, c4, c3, c2, Ne.symm c6⟩
    simp only [this]
theorem metC_turn (h wd : Nat) (m : Nat → Nat → Nat) : metC wd h (fun i j => m (h - 1 - j) i) 4 = metC h wd m 4 := by
  have a := metC_flip wd h (fun a b => m b a)
  have b := metC_trans h wd m
  exact a.trans b

/-! ### plans -/
theorem meetN_is {q : List ByteArray} {h wd : Nat} {m : Nat → Nat → Nat} (x : Is q h wd m) : meetN q 4 = metC h wd m 4 := by
  unfold meetN
  have hq := planP_of x.plan
  rw [if_pos x.plan, pts_grid hq, ptsG_cnt, x.len, x.wide]
  exact metC_same x.same
theorem cross_self {p : List ByteArray} (h : planB p = true) : meetN p 4 = metC p.length (wideB p) (gridG p) 4 := meetN_is (Is.self h)
theorem cross_turn {p : List ByteArray} (h : planB p = true) : meetN (namesB (turnB p)) 4 = meetN p 4 := by
  rw [meetN_is (is_turn h), cross_self h]; exact metC_turn _ _ _
/-! ### cuts -/
/-! ### rooms at the outline -/
end Go.Proofs.Ytpgcpmfemcfoaaa

/-
  Plans made tight: the same crosses or none, the same rooms. (Mathematics.)
-/
namespace Go.Proofs.Ytpgcpmfemcfoaaa
open Go.RowKit

end Go.Proofs.Ytpgcpmfemcfoaaa
