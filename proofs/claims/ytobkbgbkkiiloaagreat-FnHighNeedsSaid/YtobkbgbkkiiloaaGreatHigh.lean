
/-
  Merged texts: TrO High.
-/
import Derived.Test.YtobkbgbkkiiloaaGreatSizY
import Derived.Test.YtobkbgbkkiiloaaGreatIs
import Derived.Test.YtobkbgbkkiiloaaGreatEuler
import Derived.Test.YtobkbgbkkiiloaaGreatSizF

/-
  Orders of plans with rows and columns exchanged. (Plain mathematics.)
-/
namespace Go.Proofs.YtobkbgbkkiiloaaGreat

/-- one grid is the other one with rows and columns exchanged -/
def TrG (h wd : Nat) (g g' : Nat → Nat → Nat) (τ : Nat → Nat) : Prop := ∀ i j, i < h → j < wd → τ (g i j) = g' j i
def TrI (h wd : Nat) (g g' : Nat → Nat → Nat) : Prop := ∀ i j i' j', i < h → j < wd → i' < h → j' < wd → (g i j = g i' j' ↔ g' j i = g' j' i')
theorem tr_JL {h wd : Nat} {g g' : Nat → Nat → Nat} {τ : Nat → Nat} (T : TrG h wd g g' τ) (I : TrI h wd g g') {a b : Nat} (hj : JL h wd g a b) : JA wd h g' (τ a) (τ b) := by
  obtain ⟨k, s, t, k1, kw, hs, ht, hall, rfl, rfl⟩ := hj
  refine ⟨k, s, t, k1, kw, hs, ht, fun j hj e => ?_, (T s (k - 1) hs (by omega)).symm, (T t k ht kw).symm⟩
  have hjh : j < h := by omega
  exact hall j hj ((I j (k - 1) j k hjh (by omega) hjh kw).2 e)
theorem tr_JA {h wd : Nat} {g g' : Nat → Nat → Nat} {τ : Nat → Nat} (T : TrG h wd g g' τ) (I : TrI h wd g g') {a b : Nat} (hj : JA h wd g a b) : JL wd h g' (τ a) (τ b) := by
  obtain ⟨k, s, t, k1, kh, hs, ht, hall, rfl, rfl⟩ := hj
  refine ⟨k, s, t, k1, kh, hs, ht, fun j hj e => ?_, (T (k - 1) s (by omega) hs).symm, (T k t kh ht).symm⟩
  have hjw : j < wd := by omega
  exact hall j hj ((I (k - 1) j k j (by omega) hjw kh hjw).2 e)
theorem trans_map {R R' : Nat → Nat → Prop} {τ : Nat → Nat} (h : ∀ a b, R a b → R' (τ a) (τ b)) {a b : Nat} (x : Relation.TransGen R a b) : Relation.TransGen R' (τ a) (τ b) := by
  induction x with
  | single k => exact .single (h _ _ k)
  | tail _ k ih => exact .tail ih (h _ _ k)
theorem tr_LL {h wd : Nat} {g g' : Nat → Nat → Nat} {τ : Nat → Nat} (T : TrG h wd g g' τ) (I : TrI h wd g g') {a b : Nat} (x : LL h wd g a b) : AA wd h g' (τ a) (τ b) := trans_map (fun _ _ k => tr_JL T I k) x
theorem tr_AA {h wd : Nat} {g g' : Nat → Nat → Nat} {τ : Nat → Nat} (T : TrG h wd g g' τ) (I : TrI h wd g g') {a b : Nat} (x : AA h wd g a b) : LL wd h g' (τ a) (τ b) := trans_map (fun _ _ k => tr_JA T I k) x
theorem tr_some {h wd : Nat} {g g' : Nat → Nat → Nat} (I : TrI h wd g g') : ∃ τ, TrG h wd g g' τ := by
  have : ∀ a, ∃ t, ∀ i j, i < h → j < wd → g i j = a → t = g' j i := fun a => by
    by_cases x : ∃ i j, i < h ∧ j < wd ∧ g i j = a
    · obtain ⟨i, j, hi, hj, e⟩ := x
      exact ⟨g' j i, fun i' j' hi' hj' e' => (I i j i' j' hi hj hi' hj').1 (by rw [e, e'])⟩
    · exact ⟨0, fun i j hi hj e => absurd ⟨i, j, hi, hj, e⟩ x⟩
  obtain ⟨τ, T⟩ := Classical.axiomOfChoice this
  exact ⟨τ, fun i j hi hj => T _ i j hi hj rfl⟩

theorem trans_is_turn {p : List ByteArray} (h : planB p = true) : namesB (transB p) = namesB (flipB (namesB (turnB p))) := by
  have x := Is.trans (Is.self h)
  have y := Is.flip (Is.turn (Is.self h))
  refine Is.eq x y fun i j i' j' hi hj hi' hj' => ?_
  rw [show p.length - 1 - (p.length - 1 - j) = j by omega, show p.length - 1 - (p.length - 1 - j') = j' by omega]
theorem plain_is {p : List ByteArray} (h : planB p = true) : plainB p = decide (meetN p 4 = 0) := by unfold plainB; rw [h, Bool.true_and]
theorem plain_trans {p : List ByteArray} (h : plainB p = true) : plainB (namesB (transB p)) = true := by
  have hp := plainB_plan h
  have y := (Is.turn (Is.self hp)).plan
  rw [plain_is (Is.trans (Is.self hp)).plan, trans_is_turn hp, cross_flip y, cross_turn hp, ← plain_is hp, h]

/-- rooms of a plan and those of the plan with rows and columns exchanged -/
structure TrR (p q : List ByteArray) (τ : Nat → Nat) : Prop where
  cell : ∀ i j, i < p.length → j < wideB p → τ (gridG p i j) = gridG q j i
  rooms : gridR q = gridR p
  lt : ∀ a, a < gridR p → τ a < gridR p
  inj : ∀ a b, a < gridR p → b < gridR p → τ a = τ b → a = b
  onto : ∀ b, b < gridR p → ∃ a, a < gridR p ∧ τ a = b
  left : ∀ a b, a < gridR p → b < gridR p → pL q 0 (τ a) (τ b) = pL p 1 a b
  above : ∀ a b, a < gridR p → b < gridR p → pL q 1 (τ a) (τ b) = pL p 0 a b
theorem trans_rooms {p : List ByteArray} (h : planB p = true) : ∃ τ, TrR p (namesB (transB p)) τ := by
  have x := Is.trans (Is.self h)
  have I : TrI p.length (wideB p) (gridG p) (gridG (namesB (transB p))) := fun i j i' j' hi hj hi' hj' => by
    have := x.same j' i' j i hj' hi' hj hi
    exact this.symm
  have I' : TrI (wideB p) p.length (gridG (namesB (transB p))) (gridG p) := fun i j i' j' hi hj hi' hj' => (I j i j' i' hj hi hj' hi').symm
  obtain ⟨τ, T⟩ := tr_some I
  obtain ⟨σ, S⟩ := tr_some I'
  have hl := x.len; have hw := x.wide
  have st : ∀ a, a < gridR p → σ (τ a) = a := fun a ha => by
    obtain ⟨i, j, hi, hj, rfl⟩ := room_at ha
    rw [T i j hi hj, S j i hj hi]
  have tlt : ∀ a, a < gridR p → τ a < gridR (namesB (transB p)) := fun a ha => by
    obtain ⟨i, j, hi, hj, rfl⟩ := room_at ha
    rw [T i j hi hj]
    exact gridG_lt (by omega) (by omega)
  have slt : ∀ a, a < gridR (namesB (transB p)) → σ a < gridR p ∧ τ (σ a) = a := fun a ha => by
    obtain ⟨i, j, hi, hj, rfl⟩ := room_at ha
    rw [hl] at hi; rw [hw] at hj
    rw [S i j hi hj, T j i hj hi]
    exact ⟨gridG_lt hj hi, rfl⟩
  have inj : ∀ a b, a < gridR p → b < gridR p → τ a = τ b → a = b := fun a b ha hb e => by rw [← st a ha, ← st b hb, e]
  have rm : gridR (namesB (transB p)) = gridR p := by
    apply Nat.le_antisymm
    · have := nodup_lt (gridR p) ((List.range (gridR (namesB (transB p)))).map σ) (by
        unfold List.Nodup
        rw [List.pairwise_map]
        refine List.Pairwise.imp_of_mem ?_ List.pairwise_lt_range
        intro a b ha hb hab e
        have ha := List.mem_range.1 ha; have hb := List.mem_range.1 hb
        have := (slt a ha).2; have := (slt b hb).2
        rw [e] at *; omega) (fun z hz => by
        obtain ⟨a, ha, rfl⟩ := List.mem_map.1 hz
        exact (slt a (List.mem_range.1 ha)).1)
      simpa using this
    · have := nodup_lt (gridR (namesB (transB p))) ((List.range (gridR p)).map τ) (by
        unfold List.Nodup
        rw [List.pairwise_map]
        refine List.Pairwise.imp_of_mem ?_ List.pairwise_lt_range
        intro a b ha hb hab e
        have := inj a b (List.mem_range.1 ha) (List.mem_range.1 hb) e
        omega) (fun z hz => by
        obtain ⟨a, ha, rfl⟩ := List.mem_map.1 hz
        exact tlt a (List.mem_range.1 ha))
      simpa using this
  refine ⟨τ, T, rm, fun a ha => rm ▸ tlt a ha, inj, fun b hb => ⟨σ b, (slt b (by omega)).1, (slt b (by omega)).2⟩, fun a b ha hb => ?_, fun a b ha hb => ?_⟩
  · rw [Bool.eq_iff_iff, pL_left, pL_above, hl, hw]
    constructor
    · intro k
      have := tr_LL S I' k
      rwa [st a ha, st b hb] at this
    · exact fun k => tr_AA T I k
  · rw [Bool.eq_iff_iff, pL_above, pL_left, hl, hw]
    constructor
    · intro k
      have := tr_AA S I' k
      rwa [st a ha, st b hb] at this
    · exact fun k => tr_LL T I k

/-- sums along a way, rooms renamed -/
theorem sum_map {f f' : Nat → Nat → Bool} {r : Nat} {d d' : Nat → Nat} {τ : Nat → Nat} (lt : ∀ a, a < r → τ a < r) (onto : ∀ b, b < r → ∃ a, a < r ∧ τ a = b) (hf : ∀ a b, a < r → b < r → f' (τ a) (τ b) = f a b) (hd : ∀ a, a < r → d' (τ a) = d a) :
    ∀ k b, b < r → wK f' d' r k (τ b) = wK f d r k b
  | 0, _, _ => rfl
  | k + 1, b, hb => by
    rw [wK_succ, wK_succ]
    apply Nat.le_antisymm
    · rw [gM_le]
      intro a ha hfa
      obtain ⟨c, hc, rfl⟩ := onto a ha
      rw [hf c b hc hb] at hfa
      have ih := sum_map (f := f) (f' := f') lt onto hf hd k c hc
      show wK f' d' r k (τ c) + d' (τ c) ≤ _
      rw [ih, hd c hc]
      exact (gM_le (v := fun a => wK f d r k a + d a) r).1 (Nat.le_refl _) c hc hfa
    · rw [gM_le]
      intro a ha hfa
      have ih := sum_map (f := f) (f' := f') lt onto hf hd k a ha
      show wK f d r k a + d a ≤ _
      rw [← ih, ← hd a ha]
      exact (gM_le (v := fun a => wK f' d' r k a + d' a) r).1 (Nat.le_refl _) (τ a) (lt a ha) (by rw [hf a b ha hb]; exact hfa)
end Go.Proofs.YtobkbgbkkiiloaaGreat

/-
  Heights are widths with rows and columns exchanged. (Plain mathematics.)
-/
namespace Go.Proofs.YtobkbgbkkiiloaaGreat

/-- needs of rooms, put at the rooms of the other plan, as far as cells are gone through -/
structure HiS (p q : List ByteArray) (d : Nat → Nat) (n : Nat) (S : List Nat) (i k : Nat) : Prop where
  len : S.length = n
  put : ∀ i' k', i' < p.length → k' < wideB p → (i' < i ∨ i' = i ∧ k' < k) → S.getD (gridG q k' i') 0 = d (gridG p i' k')
theorem HiS.start (p q : List ByteArray) (d : Nat → Nat) (n : Nat) : HiS p q d n (List.replicate n 0) 0 0 := ⟨List.length_replicate, fun i' k' _ _ h => by omega⟩
theorem HiS.row {p q : List ByteArray} {d : Nat → Nat} {n i : Nat} {S : List Nat} (h : HiS p q d n S i (wideB p)) : HiS p q d n S (i + 1) 0 :=
  ⟨h.len, fun i' k' hi hk hx => h.put i' k' hi hk (by omega)⟩
theorem HiS.step {p q : List ByteArray} {d : Nat → Nat} {n i k : Nat} {S : List Nat} {τ : Nat → Nat} (T : TrR p q τ) (hn : n = gridR p) (hi : i < p.length) (hk : k < wideB p) (h : HiS p q d n S i k) : HiS p q d n (S.set (gridG q k i) (d (gridG p i k))) i (k + 1) := by
  refine ⟨by rw [List.length_set]; exact h.len, fun i' k' hi' hk' hx => ?_⟩
  have r1 : gridG p i k < gridR p := gridG_lt hi hk
  have r2 : gridG p i' k' < gridR p := gridG_lt hi' hk'
  have hlt : gridG q k i < S.length := by rw [h.len, hn, ← T.cell i k hi hk]; exact T.lt _ r1
  by_cases e : gridG q k' i' = gridG q k i
  · have : gridG p i' k' = gridG p i k := T.inj _ _ r2 r1 (by rw [T.cell i' k' hi' hk', T.cell i k hi hk, e])
    rw [e, this, List.getD_eq_getElem?_getD, List.getElem?_set_self hlt]; rfl
  · rw [List.getD_eq_getElem?_getD, List.getElem?_set_ne (fun x => e x.symm), ← List.getD_eq_getElem?_getD]
    refine h.put i' k' hi' hk' ?_
    rcases hx with hx | ⟨hx, hy⟩
    · exact .inl hx
    · by_cases ek : k' = k
      · subst hx; subst ek; exact absurd rfl e
      · exact .inr ⟨hx, by omega⟩
theorem intsL_dN (S : List Nat) {b : Nat} (hb : b < S.length) : dN (intsL S) b = S.getD b 0 := by
  unfold dN; rw [ints_at S hb]; rfl
/-- what the law of least heights asks -/
theorem high_math {p : List ByteArray} {l : List Int} {S : List Nat} (h : sizedB p l = true) (hS : HiS p (namesB (transB p)) (dN l) l.length S p.length 0) :
    sizedB (namesB (transB p)) (intsL S) = true ∧ wideV (namesB (transB p)) (intsL S) 0 = wideV p l 1 := by
  obtain ⟨h1, h2, h3, h4, h5, h6⟩ := sized_facts h
  have hp := plainB_plan h1
  obtain ⟨τ, T⟩ := trans_rooms hp
  have hl : S.length = gridR p := by rw [hS.len, h2]
  have at_ : ∀ a, a < gridR p → S.getD (τ a) 0 = dN l a := fun a ha => by
    obtain ⟨i, j, hi, hj, rfl⟩ := room_at ha
    rw [T.cell i j hi hj]
    exact hS.put i j hi hj (.inl hi)
  have sized : sizedB (namesB (transB p)) (intsL S) = true := by
    unfold sizedB
    rw [plain_trans h1, Bool.true_and, Bool.and_eq_true, decide_eq_true_eq]
    refine ⟨by rw [intsL_len, hl, T.rooms], ?_⟩
    unfold needB
    rw [List.all_eq_true]
    intro x hx
    obtain ⟨b, hb, rfl⟩ := List.mem_iff_getElem.1 hx
    have hb2 : b < S.length := by rwa [intsL_len] at hb
    obtain ⟨a, ha, e⟩ := T.onto b (by omega)
    have k1 := at_ a ha
    have k2 := needB_at h3 (a := a) (by omega)
    have k3 := ints_at S hb2
    rw [List.getD_eq_getElem?_getD, List.getElem?_eq_getElem hb, Option.getD_some] at k3
    rw [k3, ← e, k1, Bool.and_eq_true, decide_eq_true_eq, decide_eq_true_eq]
    omega
  refine ⟨sized, ?_⟩
  rw [wideV_yes sized, wideV_yes h, T.rooms]
  have hd : ∀ a, a < gridR p → dN (intsL S) (τ a) = dN l a := fun a ha => by rw [intsL_dN S (by rw [hl]; exact T.lt a ha), at_ a ha]
  have hw : ∀ b, b < gridR p → sumS (pL (namesB (transB p)) 0) (dN (intsL S)) (gridR p) (τ b) = sumS (pL p 1) (dN l) (gridR p) b := fun b hb => sum_map T.lt T.onto T.left hd _ b hb
  apply Nat.le_antisymm
  · refine (eM_le (gridR p)).2 fun b hb => ?_
    obtain ⟨a, ha, rfl⟩ := T.onto b hb
    show sumS (pL (namesB (transB p)) 0) (dN (intsL S)) (gridR p) (τ a) + dN (intsL S) (τ a) ≤ _
    rw [hw a ha, hd a ha]
    exact end_each ha
  · refine (eM_le (gridR p)).2 fun a ha => ?_
    show sumS (pL p 1) (dN l) (gridR p) a + dN l a ≤ _
    rw [← hw a ha, ← hd a ha]
    exact end_each (T.lt a ha)
theorem sets_cells {w : World} {g : Nat} {S : List Nat} (h : HeldB w g 3 (setsV S)) : CellsAt w (some ⟨g, 0, none⟩) ((intsL S).map (Value.int .i64)) := fun i u hu => by
  refine ⟨g, 0, rfl, ?_⟩
  rw [Nat.zero_add, h.cell i, ← hu]
  simp [setsV, intsL, Function.comp_def]
/-- what is read at a cell -/
theorem high_cells {p : List ByteArray} {l : List Int} (h : sizedB p l = true) {i k : Nat} (hi : i < p.length) (hk : k < wideB p) :
    k < (namesB (transB p)).length ∧ i < ((namesB (transB p)).getD k ByteArray.empty).size ∧ k < (p.getD i ByteArray.empty).size ∧ gridG p i k < l.length ∧ gridG (namesB (transB p)) k i < l.length ∧
    ((((namesB (transB p)).getD k ByteArray.empty).data.toList.getD i 0).toNat : Int) - 97 = ((gridG (namesB (transB p)) k i : Nat) : Int) ∧ ((((namesB (transB p)).getD k ByteArray.empty).data.toList.getD i 0).toNat ≤ 122) ∧
    (((p.getD i ByteArray.empty).data.toList.getD k 0).toNat : Int) - 97 = ((gridG p i k : Nat) : Int) ∧ (((p.getD i ByteArray.empty).data.toList.getD k 0).toNat ≤ 122) := by
  obtain ⟨h1, h2, h3, h4, h5, h6⟩ := sized_facts h
  have hp := plainB_plan h1
  have x := Is.trans (Is.self hp)
  obtain ⟨τ, T⟩ := trans_rooms hp
  have hl := x.len; have hw := x.wide
  have l1 := letter_room hp hi hk
  have l2 := letter_room x.plan (i := k) (j := i) (by omega) (by omega)
  have e1 := (planP_of hp).grid.even i hi
  have e2 := (planP_of x.plan).grid.even k (by omega)
  have g1 : gridG p i k < gridR p := gridG_lt hi hk
  have g2 : gridG (namesB (transB p)) k i < gridR (namesB (transB p)) := gridG_lt (by omega) (by omega)
  rw [T.rooms] at g2
  unfold byteAt at l1 l2
  exact ⟨by omega, by omega, by omega, by omega, by omega, l2.1, l2.2, l1.1, l1.2⟩
end Go.Proofs.YtobkbgbkkiiloaaGreat
