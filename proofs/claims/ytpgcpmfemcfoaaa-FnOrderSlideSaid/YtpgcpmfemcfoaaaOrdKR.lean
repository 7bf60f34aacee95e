/-
  Merged texts: High OrdK.
-/
import Derived.Test.YtpgcpmfemcfoaaaSizYR
import Derived.Test.YtpgcpmfemcfoaaaIsR
import Derived.Test.YtpgcpmfemcfoaaaEulerR
import Derived.Test.YtpgcpmfemcfoaaaOrdJR

/-
  Merged texts: TrO High.
-/
/-
  Orders of plans with rows and columns exchanged. (Plain mathematics.)
-/
namespace Go.Proofs.Ytpgcpmfemcfoaaa

theorem trans_map {R R' : Nat → Nat → Prop} {τ : Nat → Nat} (h : ∀ a b, R a b → R' (τ a) (τ b)) {a b : Nat} (x : Relation.TransGen R a b) : Relation.TransGen R' (τ a) (τ b) := by
  induction x with
  | single k => exact .single (h _ _ k)
  | tail _ k ih => exact .tail ih (h _ _ k)
theorem plain_is {p : List ByteArray} (h : planB p = true) : plainB p = decide (meetN p 4 = 0) := by unfold plainB; rw [h, Bool.true_and]
/-- rooms of a plan and those of the plan with rows and columns exchanged -/
structure TrR (p q : List ByteArray) (τ : Nat → Nat) : Prop where
  cell : ∀ i j, i < p.length → j < wideB p → τ (gridG p i j) = gridG q j i
  rooms : gridR q = gridR p
  lt : ∀ a, a < gridR p → τ a < gridR p
  inj : ∀ a b, a < gridR p → b < gridR p → τ a = τ b → a = b
  onto : ∀ b, b < gridR p → ∃ a, a < gridR p ∧ τ a = b
  left : ∀ a b, a < gridR p → b < gridR p → pL q 0 (τ a) (τ b) = pL p 1 a b
  above : ∀ a b, a < gridR p → b < gridR p → pL q 1 (τ a) (τ b) = pL p 0 a b
end Go.Proofs.Ytpgcpmfemcfoaaa

/-
  Heights are widths with rows and columns exchanged. (Plain mathematics.)
-/
namespace Go.Proofs.Ytpgcpmfemcfoaaa

/-- needs of rooms, put at the rooms of the other plan, as far as cells are gone through -/
structure HiS (p q : List ByteArray) (d : Nat → Nat) (n : Nat) (S : List Nat) (i k : Nat) : Prop where
  len : S.length = n
  put : ∀ i' k', i' < p.length → k' < wideB p → (i' < i ∨ i' = i ∧ k' < k) → S.getD (gridG q k' i') 0 = d (gridG p i' k')
theorem HiS.start (p q : List ByteArray) (d : Nat → Nat) (n : Nat) : HiS p q d n (List.replicate n 0) 0 0 := ⟨List.length_replicate, fun i' k' _ _ h => by omega⟩
theorem HiS.row {p q : List ByteArray} {d : Nat → Nat} {n i : Nat} {S : List Nat} (h : HiS p q d n S i (wideB p)) : HiS p q d n S (i + 1) 0 :=
  ⟨h.len, fun i' k' hi hk hx => h.put i' k' hi hk (by omega)⟩
theorem HiS.step {p q : List ByteArray} {d : Nat → Nat} {n i k : Nat} {S : List Nat} {τ : Nat → Nat} (T : TrR p q τ) (hn : n = gridR p) (hi : i < p.length) (hk : k < wideB p) (h : HiS p q d n S i k) : HiS p q d n (S.set (gridG q k i) (d (gridG p i k))) i (k + 1) := by
  refine ⟨by rw [List.length_set]; exact h.len, fun i' k' hi' hk' hx => ?_⟩
  have r1 : gridG p i k < gridR p := gridG_lt hi hk
  have r2 : gridG p i' k' < gridR p := gridG_lt hi' hk'
  have hlt : gridG q k i < S.length := by rw [h.len, hn, ← T.cell i k hi hk]; exact T.lt _ r1
  by_cases e : gridG q k' i' = gridG q k i
  · have : gridG p i' k' = gridG p i k := T.inj _ _ r2 r1 (by rw [T.cell i' k' hi' hk', T.cell i k hi hk, e])
    rw [e, this, List.getD_eq_getElem?_getD, List.getElem?_set_self hlt]; rfl
  · rw [List.getD_eq_getElem?_getD, List.getElem?_set_ne (fun x => e x.symm), ← List.getD_eq_getElem?_getD]
    refine h.put i' k' hi' hk' ?_
    rcases hx with hx | ⟨hx, hy⟩
    · exact .inl hx
    · by_cases ek : k' = k
      · subst hx; subst ek; exact absurd rfl e
      · exact .inr ⟨hx, by omega⟩
end Go.Proofs.Ytpgcpmfemcfoaaa

/-
  What more the laws of orders ask. (Plain mathematics.)
-/
namespace Go.Proofs.Ytpgcpmfemcfoaaa

/-! ## pairs of a list that stand one behind the other -/
/-! ## rows and columns exchanged -/
theorem countP_renamed {r : Nat} {τ : Nat → Nat} (lt : ∀ a, a < r → τ a < r) (inj : ∀ a b, a < r → b < r → τ a = τ b → a = b) (onto : ∀ b, b < r → ∃ a, a < r ∧ τ a = b) (P : Nat → Bool) : (List.range r).countP (fun a => P (τ a)) = (List.range r).countP P := by
  have hn : ((List.range r).map τ).Nodup := by
    unfold List.Nodup
    rw [List.pairwise_map]
    refine List.Pairwise.imp_of_mem ?_ List.pairwise_lt_range
    intro a b ha hb hab e
    have := inj a b (List.mem_range.1 ha) (List.mem_range.1 hb) e
    omega
  have hp : ((List.range r).map τ).Perm (List.range r) := by
    rw [List.perm_ext_iff_of_nodup hn List.nodup_range]
    intro x
    rw [List.mem_range]
    constructor
    · intro hx
      obtain ⟨a, ha, rfl⟩ := List.mem_map.1 hx
      exact lt a (List.mem_range.1 ha)
    · intro hx
      obtain ⟨a, ha, e⟩ := onto x hx
      exact List.mem_map.2 ⟨a, List.mem_range.2 ha, e⟩
  have := hp.countP_eq P
  rw [List.countP_map] at this
  exact this
theorem placeN_renamed {q q' : Nat → Nat → Bool} {r : Nat} {τ : Nat → Nat} (lt : ∀ a, a < r → τ a < r) (inj : ∀ a b, a < r → b < r → τ a = τ b → a = b) (onto : ∀ b, b < r → ∃ a, a < r ∧ τ a = b) (hq : ∀ a b, a < r → b < r → q' (τ a) (τ b) = q a b) {b : Nat} (hb : b < r) : placeN q' r (τ b) = placeN q r b := by
  unfold placeN
  rw [← countP_renamed lt inj onto (fun a => q' a (τ b))]
  refine List.countP_congr fun a ha => ?_
  rw [hq a b (List.mem_range.1 ha) hb]
/-- the place from behind -/
theorem Lin.place_flip {q : Nat → Nat → Bool} {r : Nat} (L : Lin q r) {b : Nat} (hb : b < r) : placeN (fun x y => q y x) r b + placeN q r b + 1 = r := by
  have h3 : ∀ n, n ≤ r → (List.range n).countP (fun a => q b a) + (List.range n).countP (fun a => q a b) + (if b < n then 1 else 0) = n := by
    intro n
    induction n with
    | zero => intro _; rfl
    | succ n ih =>
      intro hn
      have := ih (by omega)
      rw [List.range_succ, List.countP_append, List.countP_append, List.countP_singleton, List.countP_singleton]
      have c1 : ∀ x : Bool, (if x = true then 1 else 0) = x.toNat := fun x => by cases x <;> rfl
      rw [c1, c1]
      by_cases e : b = n
      · subst e
        rw [L.irr b hb, if_pos (by omega)]
        rw [if_neg (by omega)] at this
        show _ + 0 + (_ + 0) + 1 = _
        omega
      · have hne : (if b < n + 1 then 1 else 0) = (if b < n then 1 else 0) := by
          by_cases hbn : b < n
          · rw [if_pos hbn, if_pos (by omega)]
          · rw [if_neg hbn, if_neg (by omega)]
        rw [hne]
        have two : (q b n).toNat + (q n b).toNat = 1 := by
          rcases L.all b n hb (by omega) e with k | k
          · have k2 : q n b = false := by
              cases h : q n b
              · rfl
              · have := L.trans b n b hb (by omega) hb k h; rw [L.irr b hb] at this; cases this
            rw [k, k2]; rfl
          · have k2 : q b n = false := by
              cases h : q b n
              · rfl
              · have := L.trans n b n (by omega) hb (by omega) k h; rw [L.irr n (by omega)] at this; cases this
            rw [k, k2]; rfl
        omega
  have := h3 r (Nat.le_refl _)
  rw [if_pos hb] at this
  exact this
theorem permQ_place {q1 q2 : Nat → Nat → Bool} {r : Nat} (L2 : Lin q2 r) {a : Nat} (ha : a < r) : (permQ q1 q2 r).getD (placeN q2 r a) 0 = placeN q1 r a := by
  have h := L2.lt ha
  unfold permQ
  rw [List.getD_eq_getElem?_getD, List.getElem?_map, List.getElem?_range h, Option.map_some, Option.getD_some, L2.line ha]
theorem permL_yes {p : List ByteArray} (h : plainB p = true) : permL p = permQ (firstQ (pL p)) (secondQ (pL p)) (gridR p) := by unfold permL; rw [oR_yes h, oF_yes h]
/-! ## growing parts of permutations -/
/-- rooms of two plans in the same orders -/
structure SamR (p q : List ByteArray) (τ : Nat → Nat) : Prop where
  rooms : gridR q = gridR p
  lt : ∀ a, a < gridR p → τ a < gridR p
  inj : ∀ a b, a < gridR p → b < gridR p → τ a = τ b → a = b
  onto : ∀ b, b < gridR p → ∃ a, a < gridR p ∧ τ a = b
  left : ∀ a b, a < gridR p → b < gridR p → pL q 0 (τ a) (τ b) = pL p 0 a b
  above : ∀ a b, a < gridR p → b < gridR p → pL q 1 (τ a) (τ b) = pL p 1 a b
theorem SamR.perm {p q : List ByteArray} {τ : Nat → Nat} (S : SamR p q τ) (h : plainB p = true) (hq : plainB q = true) : permL q = permL p := by
  have L2 := second_lin h
  have M2 := second_lin hq
  rw [S.rooms] at M2
  rw [permL_yes h, permL_yes hq, S.rooms]
  have e1 : ∀ a, a < gridR p → placeN (firstQ (pL q)) (gridR p) (τ a) = placeN (firstQ (pL p)) (gridR p) a := fun a ha => placeN_renamed S.lt S.inj S.onto (fun x y hx hy => by
    unfold firstQ; rw [S.left x y hx hy, S.above x y hx hy]) ha
  have e2 : ∀ a, a < gridR p → placeN (secondQ (pL q)) (gridR p) (τ a) = placeN (secondQ (pL p)) (gridR p) a := fun a ha => placeN_renamed S.lt S.inj S.onto (fun x y hx hy => by
    unfold secondQ; rw [S.left x y hx hy, S.above y x hy hx]) ha
  refine List.ext_getElem (by rw [permQ_len, permQ_len]) fun i h1 h2 => ?_
  have hi : i < gridR p := by rwa [permQ_len] at h2
  obtain ⟨a, ha, rfl⟩ := L2.surj hi
  have k1 := permQ_place (q1 := firstQ (pL p)) L2 ha
  have k2 := permQ_place (q1 := firstQ (pL q)) M2 (S.lt a ha)
  rw [e2 a ha, e1 a ha] at k2
  rw [List.getD_eq_getElem?_getD, List.getElem?_eq_getElem h2, Option.getD_some] at k1
  rw [List.getD_eq_getElem?_getD, List.getElem?_eq_getElem h1, Option.getD_some] at k2
  rw [k1, k2]

end Go.Proofs.Ytpgcpmfemcfoaaa
