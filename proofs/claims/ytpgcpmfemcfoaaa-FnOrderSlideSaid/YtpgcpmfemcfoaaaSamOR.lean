/-
  Plans with the same permutation: the same orders, and cuttable both or neither. (Plain mathematics.)
-/
import Derived.Test.YtpgcpmfemcfoaaaOrdKR
import Derived.Test.YtpgcpmfemcfoaaaGui4R

namespace Go.Proofs.Ytpgcpmfemcfoaaa

theorem intsL_inj {S T : List Nat} (h : intsL S = intsL T) : S = T := by
  have h1 := congrArg (List.map Int.toNat) h
  unfold intsL at h1
  simpa [Function.comp_def] using h1
/-! ## the same permutation, the same orders -/
/-! ## plans turned -/
def TuG (h wd : Nat) (g g' : Nat → Nat → Nat) (τ : Nat → Nat) : Prop := ∀ i j, i < h → j < wd → τ (g i j) = g' j (h - 1 - i)
def TuI (h wd : Nat) (g g' : Nat → Nat → Nat) : Prop := ∀ i j i' j', i < h → j < wd → i' < h → j' < wd → (g i j = g i' j' ↔ g' j (h - 1 - i) = g' j' (h - 1 - i'))
theorem tu_JL {h wd : Nat} {g g' : Nat → Nat → Nat} {τ : Nat → Nat} (T : TuG h wd g g' τ) (I : TuI h wd g g') {a b : Nat} (hj : JL h wd g a b) : JA wd h g' (τ a) (τ b) := by
  obtain ⟨k, s, t, k1, kw, hs, ht, hall, rfl, rfl⟩ := hj
  refine ⟨k, h - 1 - s, h - 1 - t, k1, kw, by omega, by omega, fun j hj e => ?_, (T s (k - 1) hs (by omega)).symm, (T t k ht kw).symm⟩
  have hjh : j < h := by omega
  refine hall (h - 1 - j) (by omega) ((I (h - 1 - j) (k - 1) (h - 1 - j) k (by omega) (by omega) (by omega) kw).2 ?_)
  rw [show h - 1 - (h - 1 - j) = j by omega]; exact e
theorem tu_JA {h wd : Nat} {g g' : Nat → Nat → Nat} {τ : Nat → Nat} (T : TuG h wd g g' τ) (I : TuI h wd g g') {a b : Nat} (hj : JA h wd g a b) : JL wd h g' (τ b) (τ a) := by
  obtain ⟨k, s, t, k1, kh, hs, ht, hall, rfl, rfl⟩ := hj
  refine ⟨h - k, t, s, by omega, by omega, ht, hs, fun j hj e => ?_, ?_, ?_⟩
  · have hjw : j < wd := by omega
    refine hall j (by omega) ((I (k - 1) j k j (by omega) hjw kh hjw).2 ?_)
    rw [show h - 1 - (k - 1) = h - k by omega, show h - 1 - k = h - k - 1 by omega]; exact e.symm
  · rw [T k t kh ht, show h - 1 - k = h - k - 1 by omega]
  · rw [T (k - 1) s (by omega) hs, show h - 1 - (k - 1) = h - k by omega]
theorem rooms_eq {r r' : Nat} {τ : Nat → Nat} (tlt : ∀ a, a < r → τ a < r') (inj : ∀ a b, a < r → b < r → τ a = τ b → a = b) (onto : ∀ b, b < r' → ∃ a, a < r ∧ τ a = b) : r' = r := by
  apply Nat.le_antisymm
  · obtain ⟨σ, hσ⟩ : ∃ σ : Nat → Nat, ∀ b, b < r' → σ b < r ∧ τ (σ b) = b := by
      have : ∀ b, ∃ a, b < r' → a < r ∧ τ a = b := fun b => by
        by_cases hb : b < r'
        · obtain ⟨a, ha⟩ := onto b hb; exact ⟨a, fun _ => ha⟩
        · exact ⟨0, fun h => absurd h hb⟩
      exact Classical.axiomOfChoice this
    have := nodup_lt r ((List.range r').map σ) (by
      unfold List.Nodup
      rw [List.pairwise_map]
      refine List.Pairwise.imp_of_mem ?_ List.pairwise_lt_range
      intro a b ha hb hab e
      have h1 := (hσ a (List.mem_range.1 ha)).2; have h2 := (hσ b (List.mem_range.1 hb)).2
      rw [e] at h1; omega) (fun z hz => by
      obtain ⟨a, ha, rfl⟩ := List.mem_map.1 hz
      exact (hσ a (List.mem_range.1 ha)).1)
    simpa using this
  · have := nodup_lt r' ((List.range r).map τ) (by
      unfold List.Nodup
      rw [List.pairwise_map]
      refine List.Pairwise.imp_of_mem ?_ List.pairwise_lt_range
      intro a b ha hb hab e
      have := inj a b (List.mem_range.1 ha) (List.mem_range.1 hb) e
      omega) (fun z hz => by
      obtain ⟨a, ha, rfl⟩ := List.mem_map.1 hz
      exact tlt a (List.mem_range.1 ha))
    simpa using this
theorem plain_turn {p : List ByteArray} (h : plainB p = true) : plainB (namesB (turnB p)) = true := by
  have hp := plainB_plan h
  rw [plain_is (Is.turn (Is.self hp)).plan, cross_turn hp, ← plain_is hp, h]
/-- rooms of a plan and those of the plan turned -/
structure TurR (p q : List ByteArray) (τ : Nat → Nat) : Prop where
  rooms : gridR q = gridR p
  lt : ∀ a, a < gridR p → τ a < gridR p
  inj : ∀ a b, a < gridR p → b < gridR p → τ a = τ b → a = b
  onto : ∀ b, b < gridR p → ∃ a, a < gridR p ∧ τ a = b
  left : ∀ a b, a < gridR p → b < gridR p → pL q 0 (τ a) (τ b) = pL p 1 b a
  above : ∀ a b, a < gridR p → b < gridR p → pL q 1 (τ a) (τ b) = pL p 0 a b
theorem turn_rooms {p : List ByteArray} (h : plainB p = true) : ∃ τ, TurR p (namesB (turnB p)) τ := by
  have hp := plainB_plan h
  have hq := plain_turn h
  have x := Is.turn (Is.self hp)
  have hl := x.len; have hw := x.wide
  generalize namesB (turnB p) = q at *
  have I : TuI p.length (wideB p) (gridG p) (gridG q) := fun i j i' j' hi hj hi' hj' => by
    have := x.same j' (p.length - 1 - i') j (p.length - 1 - i) hj' (by omega) hj (by omega)
    rw [show p.length - 1 - (p.length - 1 - i) = i by omega, show p.length - 1 - (p.length - 1 - i') = i' by omega] at this
    exact this.symm
  obtain ⟨τ, T⟩ : ∃ τ, TuG p.length (wideB p) (gridG p) (gridG q) τ := by
    have : ∀ a, ∃ t, ∀ i j, i < p.length → j < wideB p → gridG p i j = a → t = gridG q j (p.length - 1 - i) := fun a => by
      by_cases y : ∃ i j, i < p.length ∧ j < wideB p ∧ gridG p i j = a
      · obtain ⟨i, j, h1, h2, e⟩ := y
        exact ⟨gridG q j (p.length - 1 - i), fun i' j' h3 h4 e' => (I i j i' j' h1 h2 h3 h4).1 (by rw [e, e'])⟩
      · exact ⟨0, fun i j h1 h2 e => absurd ⟨i, j, h1, h2, e⟩ y⟩
    obtain ⟨τ, T⟩ := Classical.axiomOfChoice this
    exact ⟨τ, fun i j h1 h2 => T _ i j h1 h2 rfl⟩
  have tlt : ∀ a, a < gridR p → τ a < gridR q := fun a ha => by
    obtain ⟨i, j, h1, h2, rfl⟩ := room_at ha
    rw [T i j h1 h2]; exact gridG_lt (by omega) (by omega)
  have inj : ∀ a b, a < gridR p → b < gridR p → τ a = τ b → a = b := fun a b ha hb e => by
    obtain ⟨i, j, h1, h2, rfl⟩ := room_at ha
    obtain ⟨i', j', h3, h4, rfl⟩ := room_at hb
    rw [T i j h1 h2, T i' j' h3 h4] at e
    exact (I i j i' j' h1 h2 h3 h4).2 e
  have onto : ∀ b, b < gridR q → ∃ a, a < gridR p ∧ τ a = b := fun b hb => by
    obtain ⟨i, j, h1, h2, rfl⟩ := room_at hb
    have hj : p.length - 1 - j < p.length := by omega
    refine ⟨gridG p (p.length - 1 - j) i, gridG_lt hj (by omega), ?_⟩
    rw [T _ _ hj (by omega), show p.length - 1 - (p.length - 1 - j) = j by omega]
  have rm := rooms_eq tlt inj onto
  have f0 : ∀ a b, pL p 0 a b = true → pL q 1 (τ a) (τ b) = true := fun a b k => by
    rw [pL_left] at k
    rw [pL_above, hl, hw]
    exact trans_map (fun _ _ z => tu_JL T I z) k
  have f1 : ∀ a b, pL p 1 a b = true → pL q 0 (τ b) (τ a) = true := fun a b k => by
    rw [pL_above] at k
    rw [pL_left, hl, hw]
    have k2 := trans_map (R' := fun x y => JL (wideB p) p.length (gridG q) y x) (fun _ _ z => tu_JA T I z) k
    exact trans_swap k2
  refine ⟨τ, rm, fun a ha => rm ▸ tlt a ha, inj, fun b hb => onto b (by omega), fun a b ha hb => ?_, fun a b ha hb => ?_⟩
  · by_cases e : a = b
    · subst e; rw [pL_self hq (tlt a ha) 0 (by omega), pL_self h ha 1 (by omega)]
    · rcases pL_some hp ha hb e with k | k | k | k
      · rw [(pL_over hq (tlt a ha) (tlt b hb) (f0 a b k)).2.1, (pL_one h ha hb k).2.2]
      · rw [(pL_over hq (tlt b hb) (tlt a ha) (f0 b a k)).2.2, (pL_one h hb ha k).2.1]
      · rw [(pL_one hq (tlt b hb) (tlt a ha) (f1 a b k)).1, (pL_over h ha hb k).1]
      · rw [f1 b a k, k]
  · by_cases e : a = b
    · subst e; rw [pL_self hq (tlt a ha) 1 (by omega), pL_self h ha 0 (by omega)]
    · rcases pL_some hp ha hb e with k | k | k | k
      · rw [f0 a b k, k]
      · rw [(pL_over hq (tlt b hb) (tlt a ha) (f0 b a k)).1, (pL_one h hb ha k).1]
      · rw [(pL_one hq (tlt b hb) (tlt a ha) (f1 a b k)).2.2, (pL_over h ha hb k).2.1]
      · rw [(pL_one hq (tlt a ha) (tlt b hb) (f1 b a k)).2.1, (pL_over h hb ha k).2.2]
/-- the permutation of a plan turned is told by that of the plan -/
theorem perm_turn {p : List ByteArray} (h : plainB p = true) : (permL (namesB (turnB p))).length = gridR p ∧ ∀ j, j < gridR p → (permL p).getD j 0 < gridR p ∧ (permL (namesB (turnB p))).getD (gridR p - 1 - (permL p).getD j 0) 0 = j := by
  obtain ⟨τ, T⟩ := turn_rooms h
  have hq := plain_turn h
  have L1 := first_lin h; have L2 := second_lin h
  have M2 := second_lin hq
  rw [T.rooms] at M2
  rw [permL_yes h, permL_yes hq, T.rooms, permQ_len]
  refine ⟨rfl, fun j hj => ?_⟩
  obtain ⟨a, ha, rfl⟩ := L2.surj hj
  rw [permQ_place L2 ha]
  have e1 : placeN (firstQ (pL (namesB (turnB p)))) (gridR p) (τ a) = placeN (secondQ (pL p)) (gridR p) a := placeN_renamed T.lt T.inj T.onto (fun x y hx hy => by
    unfold firstQ secondQ; rw [T.left x y hx hy, T.above x y hx hy, Bool.or_comm]) ha
  have e2 : placeN (secondQ (pL (namesB (turnB p)))) (gridR p) (τ a) = placeN (fun x y => firstQ (pL p) y x) (gridR p) a := placeN_renamed T.lt T.inj T.onto (fun x y hx hy => by
    unfold firstQ secondQ; rw [T.left x y hx hy, T.above y x hy hx, Bool.or_comm]) ha
  have e3 := L1.place_flip ha
  refine ⟨L1.lt ha, ?_⟩
  rw [show gridR p - 1 - placeN (firstQ (pL p)) (gridR p) a = placeN (secondQ (pL (namesB (turnB p)))) (gridR p) (τ a) by rw [e2]; omega, permQ_place M2 (T.lt a ha), e1]
theorem perm_turns {p q : List ByteArray} (h : plainB p = true) (hq : plainB q = true) (e : permL p = permL q) : permL (namesB (turnB p)) = permL (namesB (turnB q)) := by
  obtain ⟨a1, a2⟩ := perm_turn h
  obtain ⟨b1, b2⟩ := perm_turn hq
  have hr : gridR q = gridR p := by
    have := congrArg List.length e
    rw [permL_yes h, permL_yes hq, permQ_len, permQ_len] at this
    exact this.symm
  rw [hr, ← e] at b2
  rw [hr] at b1
  have L1 := first_lin h; have L2 := second_lin h
  refine List.ext_getElem (by rw [a1, b1]) fun i h1 h2 => ?_
  have hi : i < gridR p := by omega
  obtain ⟨a, ha, ea⟩ := L1.surj (show gridR p - 1 - i < gridR p by omega)
  have hx : (permL p).getD (placeN (secondQ (pL p)) (gridR p) a) 0 = gridR p - 1 - i := by rw [permL_yes h, permQ_place L2 ha, ea]
  have k1 := (a2 _ (L2.lt ha)).2
  have k2 := (b2 _ (L2.lt ha)).2
  rw [hx, show gridR p - 1 - (gridR p - 1 - i) = i by omega] at k1 k2
  rw [List.getD_eq_getElem?_getD, List.getElem?_eq_getElem h1, Option.getD_some] at k1
  rw [List.getD_eq_getElem?_getD, List.getElem?_eq_getElem h2, Option.getD_some] at k2
  rw [k1, k2]

end Go.Proofs.Ytpgcpmfemcfoaaa
