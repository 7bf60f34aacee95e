
/-
  What the law of first colours asks. (Plain mathematics.)
-/
import Derived.Test.YtkbgkkempooplaaColW

namespace Go.Proofs.Ytkbgkkempooplaa
open Go.RowKit

/-- two colours exchanged -/
def swC (c x : Nat) : Nat := if x = 0 then c else if x = c then 0 else x
theorem swC_inj {c x y : Nat} (h : swC c x = swC c y) : x = y := by
  unfold swC at h
  split at h <;> split at h <;> try split at h
  all_goals try split at h
  all_goals omega
theorem swC_lt {c x m : Nat} (hc : c < m) (hx : x < m) : swC c x < m := by unfold swC; split <;> (try split) <;> omega
theorem leastC_zero {near : Nat → Nat → Bool} {n : Nat} (hn : 0 < n) : (leastC near n).2.getD 0 0 = 0 := by
  obtain ⟨k, rfl⟩ : ∃ k, n = k + 1 := ⟨n - 1, by omega⟩
  obtain ⟨v, hl⟩ := leastC_val (near := near) hn
  obtain ⟨h1, _, h2, _⟩ := leastC_is (near := near) hn
  generalize (leastC near (k + 1)).2 = L at *
  generalize (leastC near (k + 1)).1 = m at *
  have hL : L ≠ [] := fun e => by subst e; simp at hl
  obtain ⟨c, r, rfl⟩ : ∃ c r, L = c :: r := by cases L with
    | nil => exact absurd rfl hL
    | cons c r => exact ⟨c, r, rfl⟩
  have hc : c < m := (v 0 (by simp)).1
  have hg : ∀ i, i < (c :: r).length → ((c :: r).map (swC c)).getD i 0 = swC c ((c :: r).getD i 0) := fun i hi => by
    rw [List.getD_eq_getElem?_getD, List.getElem?_map, List.getElem?_eq_getElem hi, List.getD_eq_getElem?_getD, List.getElem?_eq_getElem hi]; rfl
  have v' : ValC near m ((c :: r).map (swC c)) := fun a ha => by
    rw [List.length_map] at ha
    rw [hg a ha]
    refine ⟨swC_lt hc (v a ha).1, fun b hb hnb => ?_⟩
    rw [hg b (by omega)]
    exact fun e => (v a ha).2 b hb hnb (swC_inj e)
  have hz : swC c c = 0 := by unfold swC; split <;> simp_all
  have hcomp := colS_complete (near := near) (many := m) k (C := [0]) v' (by simp at hl ⊢; omega) ⟨r.map (swC c), by rw [List.map_cons, hz]; rfl⟩
  have hfit : fitC near [] 0 = true := rfl
  cases hs : colS near m k [0] with
  | none => rw [hs] at hcomp; cases hcomp
  | some M =>
    have hF : colF near m k [] 0 = some M := by rw [colF_yes hfit]; exact hs
    have := fs_some (F := colF near m k []) (m := m) (c := 0) (fun j hj => absurd hj (Nat.not_lt_zero _)) (by omega) hF
    rw [← colS_succ, h2] at this
    have hv0 : ValC near m [0] := fun a ha => by
      have : a = 0 := by simpa using ha
      subst this
      exact ⟨by show 0 < m; omega, fun b hb => absurd hb (Nat.not_lt_zero _)⟩
    obtain ⟨_, _, r', hr'⟩ := colS_sound k hv0 hs
    have e : c :: r = M := Option.some.inj this
    rw [e, hr']; rfl

/-- of the first colours -/
theorem firstC_math {p : List ByteArray} (h : planB p = true) : ∃ L : List Nat, firstL p = L.map (fun b : Nat => (b : Int)) ∧ 1 ≤ L.length ∧ L.length ≤ 9 ∧ colsN p ≤ 9 ∧ (∀ x, x < L.length → L.getD x 0 < colsN p) ∧ L.getD 0 0 = 0 ∧
    ∀ x y, x < L.length → y < x → L.getD x 0 = L.getD y 0 → nearIs p (x : Int) (y : Int) = false := by
  have hpos := gridR_pos h
  have h9 := (planP_of h).few
  obtain ⟨v, hl⟩ := leastC_val (near := nearB p) hpos
  have hc : colsN p = (leastP p).1 := by unfold colsN; rw [if_pos h]
  have hl' : (leastP p).2.length = gridR p := hl
  refine ⟨(leastP p).2, firstL_yes h, by omega, by omega, by rw [hc]; exact (leastP_le h).2, fun x hx => ?_, leastC_zero hpos, fun x y hx hy he => ?_⟩
  · rw [hc]; exact (v x hx).1
  · have h1 := (v x hx).2 y hy
    cases hn : nearB p x y
    · unfold nearB at hn
      rw [decide_eq_false_iff_not] at hn
      unfold nearIs
      rw [decide_eq_false hn, Bool.and_false, Bool.and_false]
    · exact absurd he (h1 hn)
end Go.Proofs.Ytkbgkkempooplaa
