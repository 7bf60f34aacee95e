/-
  A region that draws its order, within a round: an invariant of what has come up so far serves all orders.
-/
import Derived.Test.YtpgcpmfemcfoaaaRowO
import Derived.OrdersIn

namespace Go.Proofs.Ytpgcpmfemcfoaaa
open Go.RowKit

theorem ready_lt {md : Region.Mode} {ops : Array Oper} {listed : Array Bool} {i : Nat} (h : i ∈ Region.ready md ops listed) : listed[i]? = some false := by
  have h1 := (mem_ready.1 h).1
  rcases Nat.lt_or_ge i listed.size with h' | h'
  · simp [h'] at h1
    simp [h', h1]
  · simp [Array.getElem?_eq_none h'] at h1
theorem ready_after {md : Region.Mode} {ops : Array Oper} {listed : Array Bool} {i : Nat} (h : i ∈ Region.ready md ops listed) {o : Oper} (ho : ops[i]? = some o) {e : Edge} (he : e ∈ o.after) (hb : Region.binds md e = true) : listed[e.on]? = some true := by
  obtain ⟨_, o', ho', hall⟩ := mem_ready.1 h
  rw [ho] at ho'
  cases ho'
  have h1 := hall e he hb
  rcases Nat.lt_or_ge e.on listed.size with h' | h'
  · simp [h'] at h1
    simp [h', h1]
  · simp [Array.getElem?_eq_none h'] at h1

theorem anyIn_inv {F : Fence} {n : Nat} {P : Program} {md : Region.Mode} {ops : Array Oper} {Q : Exit → Act → World → Prop} {Inv : Array Bool → Act → World → Prop}
    (hstep : ∀ listed a w i, Inv listed a w → i ∈ Region.ready md ops listed → wpOpIn F n P ops Q i (Inv (listed.setIfInBounds i true)) a w)
    (hdone : ∀ listed a w, Inv listed a w → Region.ready md ops listed = [] → Q .normal a w) :
    ∀ fuel listed a w, listed.toList.count false ≤ fuel → Inv listed a w → wpAnyIn F n P md ops Q fuel listed a w := by
  intro fuel
  induction fuel with
  | zero =>
    intro listed a w hc hi
    have hr : Region.ready md ops listed = [] := by
      cases hr : Region.ready md ops listed with
      | nil => rfl
      | cons i rs =>
        have h1 := ready_lt (show i ∈ Region.ready md ops listed by rw [hr]; exact List.mem_cons_self)
        have h2 : false ∈ listed.toList := by
          rw [Array.getElem?_eq_some_iff] at h1
          obtain ⟨hlt, he⟩ := h1
          rw [← he]
          simp
        have := List.count_pos_iff.2 h2
        omega
    exact ⟨hr, hdone _ _ _ hi hr⟩
  | succ fuel ih =>
    intro listed a w hc hi
    refine ⟨hdone _ _ _ hi, fun i hr => wpOpIn_mono (fun a w h => ih _ a w ?_ h) (hstep _ _ _ _ hi hr)⟩
    have h1 := ready_lt hr
    rw [Array.getElem?_eq_some_iff] at h1
    obtain ⟨hlt, he⟩ := h1
    rw [Array.toList_setIfInBounds, List.count_set (by simpa using hlt)]
    have h2 : false ∈ listed.toList := by rw [← he]; simp
    have h3 := List.count_pos_iff.2 h2
    rw [if_pos (by simp [he]), if_neg (by simp)]
    omega

end Go.Proofs.Ytpgcpmfemcfoaaa
