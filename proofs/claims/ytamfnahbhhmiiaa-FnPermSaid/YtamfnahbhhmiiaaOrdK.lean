
/-
  Merged texts: High OrdK.
-/
import Derived.Test.YtamfnahbhhmiiaaSizY
import Derived.Test.YtamfnahbhhmiiaaIs
import Derived.Test.YtamfnahbhhmiiaaEuler
import Derived.Test.YtamfnahbhhmiiaaSizF

/-
  Merged texts: TrO High.
-/
/-
  Orders of plans with rows and columns exchanged. (Plain mathematics.)
-/
namespace Go.Proofs.Ytamfnahbhhmiiaa

/-- one grid is the other one with rows and columns exchanged -/
def TrG (h wd : Nat) (g g' : Nat → Nat → Nat) (τ : Nat → Nat) : Prop := ∀ i j, i < h → j < wd → τ (g i j) = g' j i
def TrI (h wd : Nat) (g g' : Nat → Nat → Nat) : Prop := ∀ i j i' j', i < h → j < wd → i' < h → j' < wd → (g i j = g i' j' ↔ g' j i = g' j' i')
theorem tr_JL {h wd : Nat} {g g' : Nat → Nat → Nat} {τ : Nat → Nat} (T : TrG h wd g g' τ) (I : TrI h wd g g') {a b : Nat} (hj : JL h wd g a b) : JA wd h g' (τ a) (τ b) := by
  obtain ⟨k, s, t, k1, kw, hs, ht, hall, rfl, rfl⟩ := hj
  refine ⟨k, s, t, k1, kw, hs, ht, fun j hj e => ?_, (T s (k - 1) hs (by omega)).symm, (T t k ht kw).symm⟩
  have hjh : j < h := by omega
  exact hall j hj ((I j (k - 1) j k hjh (by omega) hjh kw).2 e)
theorem tr_JA {h wd : Nat} {g g' : Nat → Nat → Nat} {τ : Nat → Nat} (T : TrG h wd g g' τ) (I : TrI h wd g g') {a b : Nat} (hj : JA h wd g a b) : JL wd h g' (τ a) (τ b) := by
  obtain ⟨k, s, t, k1, kh, hs, ht, hall, rfl, rfl⟩ := hj
  refine ⟨k, s, t, k1, kh, hs, ht, fun j hj e => ?_, (T (k - 1) s (by omega) hs).symm, (T k t kh ht).symm⟩
  have hjw : j < wd := by omega
  exact hall j hj ((I (k - 1) j k j (by omega) hjw kh hjw).2 e)
theorem trans_map {R R' : Nat → Nat → Prop} {τ : Nat → Nat} (h : ∀ a b, R a b → R' (τ a) (τ b)) {a b : Nat} (x : Relation.TransGen R a b) : Relation.TransGen R' (τ a) (τ b) := by
  induction x with
  | single k => exact .single (h _ _ k)
  | tail _ k ih => exact .tail ih (h _ _ k)
theorem tr_LL {h wd : Nat} {g g' : Nat → Nat → Nat} {τ : Nat → Nat} (T : TrG h wd g g' τ) (I : TrI h wd g g') {a b : Nat} (x : LL h wd g a b) : AA wd h g' (τ a) (τ b) := trans_map (fun _ _ k => tr_JL T I k) x
theorem tr_AA {h wd : Nat} {g g' : Nat → Nat → Nat} {τ : Nat → Nat} (T : TrG h wd g g' τ) (I : TrI h wd g g') {a b : Nat} (x : AA h wd g a b) : LL wd h g' (τ a) (τ b) := trans_map (fun _ _ k => tr_JA T I k) x
theorem tr_some {h wd : Nat} {g g' : Nat → Nat → Nat} (I : TrI h wd g g') : ∃ τ, TrG h wd g g' τ := by
  have : ∀ a, ∃ t, ∀ i j, i < h → j < wd → g i j = a → t = g' j i := fun a => by
    by_cases x : ∃ i j, i < h ∧ j < wd ∧ g i j = a
    · obtain ⟨i, j, hi, hj, e⟩ := x
      exact ⟨g' j i, fun i' j' hi' hj' e' => (I i j i' j' hi hj hi' hj').1 (by rw [e, e'])⟩
    · exact ⟨0, fun i j hi hj e => absurd ⟨i, j, hi, hj, e⟩ x⟩
  obtain ⟨τ, T⟩ := Classical.axiomOfChoice this
  exact ⟨τ, fun i j hi hj => T _ i j hi hj rfl⟩

theorem trans_is_turn {p : List ByteArray} (h : planB p = true) : namesB (transB p) = namesB (flipB (namesB (turnB p))) := by
  have x := Is.trans (Is.self h)
  have y := Is.flip (Is.turn (Is.self h))
  refine Is.eq x y fun i j i' j' hi hj hi' hj' => ?_
  rw [show p.length - 1 - (p.length - 1 - j) = j by omega, show p.length - 1 - (p.length - 1 - j') = j' by omega]
theorem plain_is {p : List ByteArray} (h : planB p = true) : plainB p = decide (meetN p 4 = 0) := by unfold plainB; rw [h, Bool.true_and]
theorem plain_trans {p : List ByteArray} (h : plainB p = true) : plainB (namesB (transB p)) = true := by
  have hp := plainB_plan h
  have y := (Is.turn (Is.self hp)).plan
  rw [plain_is (Is.trans (Is.self hp)).plan, trans_is_turn hp, cross_flip y, cross_turn hp, ← plain_is hp, h]

/-- rooms of a plan and those of the plan with rows and columns exchanged -/
structure TrR (p q : List ByteArray) (τ : Nat → Nat) : Prop where
  cell : ∀ i j, i < p.length → j < wideB p → τ (gridG p i j) = gridG q j i
  rooms : gridR q = gridR p
  lt : ∀ a, a < gridR p → τ a < gridR p
  inj : ∀ a b, a < gridR p → b < gridR p → τ a = τ b → a = b
  onto : ∀ b, b < gridR p → ∃ a, a < gridR p ∧ τ a = b
  left : ∀ a b, a < gridR p → b < gridR p → pL q 0 (τ a) (τ b) = pL p 1 a b
  above : ∀ a b, a < gridR p → b < gridR p → pL q 1 (τ a) (τ b) = pL p 0 a b
theorem trans_rooms {p : List ByteArray} (h : planB p = true) : ∃ τ, TrR p (namesB (transB p)) τ := by
  have x := Is.trans (Is.self h)
  have I : TrI p.length (wideB p) (gridG p) (gridG (namesB (transB p))) := fun i j i' j' hi hj hi' hj' => by
    have := x.same j' i' j i hj' hi' hj hi
    exact this.symm
  have I' : TrI (wideB p) p.length (gridG (namesB (transB p))) (gridG p) := fun i j i' j' hi hj hi' hj' => (I j i j' i' hj hi hj' hi').symm
  obtain ⟨τ, T⟩ := tr_some I
  obtain ⟨σ, S⟩ := tr_some I'
  have hl := x.len; have hw := x.wide
  have st : ∀ a, a < gridR p → σ (τ a) = a := fun a ha => by
    obtain ⟨i, j, hi, hj, rfl⟩ := room_at ha
    rw [T i j hi hj, S j i hj hi]
  have tlt : ∀ a, a < gridR p → τ a < gridR (namesB (transB p)) := fun a ha => by
    obtain ⟨i, j, hi, hj, rfl⟩ := room_at ha
    rw [T i j hi hj]
    exact gridG_lt (by omega) (by omega)
  have slt : ∀ a, a < gridR (namesB (transB p)) → σ a < gridR p ∧ τ (σ a) = a := fun a ha => by
    obtain ⟨i, j, hi, hj, rfl⟩ := room_at ha
    rw [hl] at hi; rw [hw] at hj
    rw [S i j hi hj, T j i hj hi]
    exact ⟨gridG_lt hj hi, rfl⟩
  have inj : ∀ a b, a < gridR p → b < gridR p → τ a = τ b → a = b := fun a b ha hb e => by rw [← st a ha, ← st b hb, e]
  have rm : gridR (namesB (transB p)) = gridR p := by
    apply Nat.le_antisymm
    · have := nodup_lt (gridR p) ((List.range (gridR (namesB (transB p)))).map σ) (by
        unfold List.Nodup
        rw [List.pairwise_map]
        refine List.Pairwise.imp_of_mem ?_ List.pairwise_lt_range
        intro a b ha hb hab e
        have ha := List.mem_range.1 ha; have hb := List.mem_range.1 hb
        have := (slt a ha).2; have := (slt b hb).2
        rw [e] at *; omega) (fun z hz => by
        obtain ⟨a, ha, rfl⟩ := List.mem_map.1 hz
        exact (slt a (List.mem_range.1 ha)).1)
      simpa using this
    · have := nodup_lt (gridR (namesB (transB p))) ((List.range (gridR p)).map τ) (by
        unfold List.Nodup
        rw [List.pairwise_map]
        refine List.Pairwise.imp_of_mem ?_ List.pairwise_lt_range
        intro a b ha hb hab e
        have := inj a b (List.mem_range.1 ha) (List.mem_range.1 hb) e
        omega) (fun z hz => by
        obtain ⟨a, ha, rfl⟩ := List.mem_map.1 hz
        exact tlt a (List.mem_range.1 ha))
      simpa using this
  refine ⟨τ, T, rm, fun a ha => rm ▸ tlt a ha, inj, fun b hb => ⟨σ b, (slt b (by omega)).1, (slt b (by omega)).2⟩, fun a b ha hb => ?_, fun a b ha hb => ?_⟩
  · rw [Bool.eq_iff_iff, pL_left, pL_above, hl, hw]
    constructor
    · intro k
      have := tr_LL S I' k
      rwa [st a ha, st b hb] at this
    · exact fun k => tr_AA T I k
  · rw [Bool.eq_iff_iff, pL_above, pL_left, hl, hw]
    constructor
    · intro k
      have := tr_AA S I' k
      rwa [st a ha, st b hb] at this
    · exact fun k => tr_LL T I k

/-- sums along a way, rooms renamed -/
theorem sum_map {f f' : Nat → Nat → Bool} {r : Nat} {d d' : Nat → Nat} {τ : Nat → Nat} (lt : ∀ a, a < r → τ a < r) (onto : ∀ b, b < r → ∃ a, a < r ∧ τ a = b) (hf : ∀ a b, a < r → b < r → f' (τ a) (τ b) = f a b) (hd : ∀ a, a < r → d' (τ a) = d a) :
    ∀ k b, b < r → wK f' d' r k (τ b) = wK f d r k b
  | 0, _, _ => rfl
  | k + 1, b, hb => by
    rw [wK_succ, wK_succ]
    apply Nat.le_antisymm
    · rw [gM_le]
      intro a ha hfa
      obtain ⟨c, hc, rfl⟩ := onto a ha
      rw [hf c b hc hb] at hfa
      have ih := sum_map (f := f) (f' := f') lt onto hf hd k c hc
      show wK f' d' r k (τ c) + d' (τ c) ≤ _
      rw [ih, hd c hc]
      exact (gM_le (v := fun a => wK f d r k a + d a) r).1 (Nat.le_refl _) c hc hfa
    · rw [gM_le]
      intro a ha hfa
      have ih := sum_map (f := f) (f' := f') lt onto hf hd k a ha
      show wK f d r k a + d a ≤ _
      rw [← ih, ← hd a ha]
      exact (gM_le (v := fun a => wK f' d' r k a + d' a) r).1 (Nat.le_refl _) (τ a) (lt a ha) (by rw [hf a b ha hb]; exact hfa)
end Go.Proofs.Ytamfnahbhhmiiaa

/-
  Heights are widths with rows and columns exchanged. (Plain mathematics.)
-/
namespace Go.Proofs.Ytamfnahbhhmiiaa

/-- needs of rooms, put at the rooms of the other plan, as far as cells are gone through -/
structure HiS (p q : List ByteArray) (d : Nat → Nat) (n : Nat) (S : List Nat) (i k : Nat) : Prop where
  len : S.length = n
  put : ∀ i' k', i' < p.length → k' < wideB p → (i' < i ∨ i' = i ∧ k' < k) → S.getD (gridG q k' i') 0 = d (gridG p i' k')
theorem HiS.start (p q : List ByteArray) (d : Nat → Nat) (n : Nat) : HiS p q d n (List.replicate n 0) 0 0 := ⟨List.length_replicate, fun i' k' _ _ h => by omega⟩
theorem HiS.row {p q : List ByteArray} {d : Nat → Nat} {n i : Nat} {S : List Nat} (h : HiS p q d n S i (wideB p)) : HiS p q d n S (i + 1) 0 :=
  ⟨h.len, fun i' k' hi hk hx => h.put i' k' hi hk (by omega)⟩
theorem HiS.step {p q : List ByteArray} {d : Nat → Nat} {n i k : Nat} {S : List Nat} {τ : Nat → Nat} (T : TrR p q τ) (hn : n = gridR p) (hi : i < p.length) (hk : k < wideB p) (h : HiS p q d n S i k) : HiS p q d n (S.set (gridG q k i) (d (gridG p i k))) i (k + 1) := by
  refine ⟨by rw [List.length_set]; exact h.len, fun i' k' hi' hk' hx => ?_⟩
  have r1 : gridG p i k < gridR p := gridG_lt hi hk
  have r2 : gridG p i' k' < gridR p := gridG_lt hi' hk'
  have hlt : gridG q k i < S.length := by rw [h.len, hn, ← T.cell i k hi hk]; exact T.lt _ r1
  by_cases e : gridG q k' i' = gridG q k i
  · have : gridG p i' k' = gridG p i k := T.inj _ _ r2 r1 (by rw [T.cell i' k' hi' hk', T.cell i k hi hk, e])
    rw [e, this, List.getD_eq_getElem?_getD, List.getElem?_set_self hlt]; rfl
  · rw [List.getD_eq_getElem?_getD, List.getElem?_set_ne (fun x => e x.symm), ← List.getD_eq_getElem?_getD]
    refine h.put i' k' hi' hk' ?_
    rcases hx with hx | ⟨hx, hy⟩
    · exact .inl hx
    · by_cases ek : k' = k
      · subst hx; subst ek; exact absurd rfl e
      · exact .inr ⟨hx, by omega⟩
theorem intsL_dN (S : List Nat) {b : Nat} (hb : b < S.length) : dN (intsL S) b = S.getD b 0 := by
  unfold dN; rw [ints_at S hb]; rfl
/-- what the law of least heights asks -/
theorem high_math {p : List ByteArray} {l : List Int} {S : List Nat} (h : sizedB p l = true) (hS : HiS p (namesB (transB p)) (dN l) l.length S p.length 0) :
    sizedB (namesB (transB p)) (intsL S) = true ∧ wideV (namesB (transB p)) (intsL S) 0 = wideV p l 1 := by
  obtain ⟨h1, h2, h3, h4, h5, h6⟩ := sized_facts h
  have hp := plainB_plan h1
  obtain ⟨τ, T⟩ := trans_rooms hp
  have hl : S.length = gridR p := by rw [hS.len, h2]
  have at_ : ∀ a, a < gridR p → S.getD (τ a) 0 = dN l a := fun a ha => by
    obtain ⟨i, j, hi, hj, rfl⟩ := room_at ha
    rw [T.cell i j hi hj]
    exact hS.put i j hi hj (.inl hi)
  have sized : sizedB (namesB (transB p)) (intsL S) = true := by
    unfold sizedB
    rw [plain_trans h1, Bool.true_and, Bool.and_eq_true, decide_eq_true_eq]
    refine ⟨by rw [intsL_len, hl, T.rooms], ?_⟩
    unfold needB
    rw [List.all_eq_true]
    intro x hx
    obtain ⟨b, hb, rfl⟩ := List.mem_iff_getElem.1 hx
    have hb2 : b < S.length := by rwa [intsL_len] at hb
    obtain ⟨a, ha, e⟩ := T.onto b (by omega)
    have k1 := at_ a ha
    have k2 := needB_at h3 (a := a) (by omega)
    have k3 := ints_at S hb2
    rw [List.getD_eq_getElem?_getD, List.getElem?_eq_getElem hb, Option.getD_some] at k3
    rw [k3, ← e, k1, Bool.and_eq_true, decide_eq_true_eq, decide_eq_true_eq]
    omega
  refine ⟨sized, ?_⟩
  rw [wideV_yes sized, wideV_yes h, T.rooms]
  have hd : ∀ a, a < gridR p → dN (intsL S) (τ a) = dN l a := fun a ha => by rw [intsL_dN S (by rw [hl]; exact T.lt a ha), at_ a ha]
  have hw : ∀ b, b < gridR p → sumS (pL (namesB (transB p)) 0) (dN (intsL S)) (gridR p) (τ b) = sumS (pL p 1) (dN l) (gridR p) b := fun b hb => sum_map T.lt T.onto T.left hd _ b hb
  apply Nat.le_antisymm
  · refine (eM_le (gridR p)).2 fun b hb => ?_
    obtain ⟨a, ha, rfl⟩ := T.onto b hb
    show sumS (pL (namesB (transB p)) 0) (dN (intsL S)) (gridR p) (τ a) + dN (intsL S) (τ a) ≤ _
    rw [hw a ha, hd a ha]
    exact end_each ha
  · refine (eM_le (gridR p)).2 fun a ha => ?_
    show sumS (pL p 1) (dN l) (gridR p) a + dN l a ≤ _
    rw [← hw a ha, ← hd a ha]
    exact end_each (T.lt a ha)
theorem sets_cells {w : World} {g : Nat} {S : List Nat} (h : HeldB w g 3 (setsV S)) : CellsAt w (some ⟨g, 0, none⟩) ((intsL S).map (Value.int .i64)) := fun i u hu => by
  refine ⟨g, 0, rfl, ?_⟩
  rw [Nat.zero_add, h.cell i, ← hu]
  simp [setsV, intsL, Function.comp_def]
/-- what is read at a cell -/
theorem high_cells {p : List ByteArray} {l : List Int} (h : sizedB p l = true) {i k : Nat} (hi : i < p.length) (hk : k < wideB p) :
    k < (namesB (transB p)).length ∧ i < ((namesB (transB p)).getD k ByteArray.empty).size ∧ k < (p.getD i ByteArray.empty).size ∧ gridG p i k < l.length ∧ gridG (namesB (transB p)) k i < l.length ∧
    ((((namesB (transB p)).getD k ByteArray.empty).data.toList.getD i 0).toNat : Int) - 97 = ((gridG (namesB (transB p)) k i : Nat) : Int) ∧ ((((namesB (transB p)).getD k ByteArray.empty).data.toList.getD i 0).toNat ≤ 122) ∧
    (((p.getD i ByteArray.empty).data.toList.getD k 0).toNat : Int) - 97 = ((gridG p i k : Nat) : Int) ∧ (((p.getD i ByteArray.empty).data.toList.getD k 0).toNat ≤ 122) := by
  obtain ⟨h1, h2, h3, h4, h5, h6⟩ := sized_facts h
  have hp := plainB_plan h1
  have x := Is.trans (Is.self hp)
  obtain ⟨τ, T⟩ := trans_rooms hp
  have hl := x.len; have hw := x.wide
  have l1 := letter_room hp hi hk
  have l2 := letter_room x.plan (i := k) (j := i) (by omega) (by omega)
  have e1 := (planP_of hp).grid.even i hi
  have e2 := (planP_of x.plan).grid.even k (by omega)
  have g1 : gridG p i k < gridR p := gridG_lt hi hk
  have g2 : gridG (namesB (transB p)) k i < gridR (namesB (transB p)) := gridG_lt (by omega) (by omega)
  rw [T.rooms] at g2
  unfold byteAt at l1 l2
  exact ⟨by omega, by omega, by omega, by omega, by omega, l2.1, l2.2, l1.1, l1.2⟩
end Go.Proofs.Ytamfnahbhhmiiaa

/-
  What more the laws of orders ask. (Plain mathematics.)
-/
namespace Go.Proofs.Ytamfnahbhhmiiaa

/-! ## pairs of a list that stand one behind the other -/
def pairR (L : List Int) (a b : Int) (i k : Nat) : Bool := (List.range k).any fun y => decide (i < y) && (decide (L.getD i 0 = a) && decide (L.getD y 0 = b))
def pairS (L : List Int) (a b : Int) (n i : Nat) : Bool := (List.range i).any fun x => pairR L a b x n
theorem pairR_start (L : List Int) (a b : Int) (i : Nat) : pairR L a b i (i + 1) = false := by
  unfold pairR
  rw [List.any_eq_false]
  intro y hy
  rw [List.mem_range] at hy
  rw [Bool.and_eq_true, decide_eq_true_eq]
  omega
theorem pairR_step (L : List Int) (a b : Int) {i k : Nat} (h : i < k) : pairR L a b i (k + 1) = (pairR L a b i k || (decide (L.getD i 0 = a) && decide (L.getD k 0 = b))) := by
  unfold pairR
  rw [List.range_succ, List.any_append, List.any_cons, List.any_nil, Bool.or_false, decide_eq_true h, Bool.true_and]
theorem pairS_step (L : List Int) (a b : Int) (n i : Nat) : pairS L a b n (i + 1) = (pairS L a b n i || pairR L a b i n) := by
  unfold pairS
  rw [List.range_succ, List.any_append, List.any_cons, List.any_nil, Bool.or_false]
theorem Lin.seen {q : Nat → Nat → Bool} {r : Nat} (L : Lin q r) {a b : Nat} (ha : a < r) (hb : b < r) : pairS (intsL (lineN q r r)) (a : Int) (b : Int) r r = q a b := by
  have hl : (lineN q r r).length = r := lineN_len _ _ _
  rw [Bool.eq_iff_iff]
  unfold pairS pairR
  rw [List.any_eq_true]
  constructor
  · rintro ⟨x, hx, h⟩
    rw [List.mem_range] at hx
    rw [List.any_eq_true] at h
    obtain ⟨y, hy, h⟩ := h
    rw [List.mem_range] at hy
    rw [Bool.and_eq_true, Bool.and_eq_true, decide_eq_true_eq, decide_eq_true_eq, decide_eq_true_eq, ints_at _ (by omega), ints_at _ (by omega)] at h
    obtain ⟨h1, h2, h3⟩ := h
    have ex : (lineN q r r).getD x 0 = a := by omega
    have ey : (lineN q r r).getD y 0 = b := by omega
    have px := (L.back hx).1
    have py := (L.back hy).1
    rw [ex] at px; rw [ey] at py
    by_cases e : a = b
    · subst e; omega
    · rcases L.all a b ha hb e with k | k
      · exact k
      · have := L.mono hb ha k; omega
  · intro h
    have hm := L.mono ha hb h
    refine ⟨placeN q r a, List.mem_range.2 (L.lt ha), ?_⟩
    rw [List.any_eq_true]
    refine ⟨placeN q r b, List.mem_range.2 (L.lt hb), ?_⟩
    rw [Bool.and_eq_true, Bool.and_eq_true, decide_eq_true_eq, decide_eq_true_eq, decide_eq_true_eq, ints_at _ (by rw [hl]; exact L.lt ha), ints_at _ (by rw [hl]; exact L.lt hb), L.line ha, L.line hb]
    exact ⟨hm, rfl, rfl⟩
/-- what the law of kinds and orders asks: of both lines, in each of the four kinds -/
theorem kindOrders_math {p : List ByteArray} {a b : Int} (h : kindB p a b = true) :
    plainB p = true ∧ (firstL p).length = gridR p ∧ (secondL p).length = gridR p ∧ gridR p ≤ 9 ∧
    ((kindV p a b = ⟨#[108]⟩ ∧ pairS (intsL (firstL p)) a b (gridR p) (gridR p) = true ∧ pairS (intsL (secondL p)) a b (gridR p) (gridR p) = true) ∨
     (kindV p a b = ⟨#[114]⟩ ∧ pairS (intsL (firstL p)) a b (gridR p) (gridR p) = false ∧ pairS (intsL (secondL p)) a b (gridR p) (gridR p) = false) ∨
     (kindV p a b = ⟨#[117]⟩ ∧ pairS (intsL (firstL p)) a b (gridR p) (gridR p) = true ∧ pairS (intsL (secondL p)) a b (gridR p) (gridR p) = false) ∨
     (kindV p a b = ⟨#[100]⟩ ∧ pairS (intsL (firstL p)) a b (gridR p) (gridR p) = false ∧ pairS (intsL (secondL p)) a b (gridR p) (gridR p) = true)) := by
  have key : ∃ m n : Nat, a = (m : Int) ∧ b = (n : Int) ∧ m < gridR p ∧ n < gridR p ∧ plainB p = true := by
    rcases kind_cases h with ⟨e, _⟩ | ⟨_, e, _⟩ | ⟨_, _, e, _⟩ | ⟨_, _, _, e, _⟩ <;> obtain ⟨hp, m, n, h1, h2, h3, h4, _⟩ := ledP_parts e
    · exact ⟨m, n, h1, h2, h3, h4, hp⟩
    · exact ⟨n, m, h2, h1, h4, h3, hp⟩
    · exact ⟨m, n, h1, h2, h3, h4, hp⟩
    · exact ⟨n, m, h2, h1, h4, h3, hp⟩
  obtain ⟨m, n, rfl, rfl, hm, hn, hp⟩ := key
  have e1 : firstL p = lineN (firstQ (pL p)) (gridR p) (gridR p) := by unfold firstL; rw [oR_yes hp, oF_yes hp]
  have e2 : secondL p = lineN (secondQ (pL p)) (gridR p) (gridR p) := by unfold secondL; rw [oR_yes hp, oF_yes hp]
  rw [e1, e2, (first_lin hp).seen hm hn, (second_lin hp).seen hm hn]
  refine ⟨hp, lineN_len _ _ _, lineN_len _ _ _, (planP_of (plainB_plan hp)).few, ?_⟩
  have k := kind_cases h
  rw [ledP_nat hp 0 hm hn, ledP_nat hp 0 hn hm, ledP_nat hp 1 hm hn, ledP_nat hp 1 hn hm] at k
  unfold firstQ secondQ
  rcases k with ⟨a1, a2, a3, a4, a5⟩ | ⟨a1, a2, a3, a4, a5⟩ | ⟨a1, a2, a3, a4, a5⟩ | ⟨a1, a2, a3, a4, a5⟩ <;> rw [a1, a3, a4]
  · exact .inl ⟨a5, rfl, rfl⟩
  · exact .inr (.inl ⟨a5, rfl, rfl⟩)
  · exact .inr (.inr (.inl ⟨a5, rfl, rfl⟩))
  · exact .inr (.inr (.inr ⟨a5, rfl, rfl⟩))

/-! ## rows and columns exchanged -/
theorem countP_renamed {r : Nat} {τ : Nat → Nat} (lt : ∀ a, a < r → τ a < r) (inj : ∀ a b, a < r → b < r → τ a = τ b → a = b) (onto : ∀ b, b < r → ∃ a, a < r ∧ τ a = b) (P : Nat → Bool) : (List.range r).countP (fun a => P (τ a)) = (List.range r).countP P := by
  have hn : ((List.range r).map τ).Nodup := by
    unfold List.Nodup
    rw [List.pairwise_map]
    refine List.Pairwise.imp_of_mem ?_ List.pairwise_lt_range
    intro a b ha hb hab e
    have := inj a b (List.mem_range.1 ha) (List.mem_range.1 hb) e
    omega
  have hp : ((List.range r).map τ).Perm (List.range r) := by
    rw [List.perm_ext_iff_of_nodup hn List.nodup_range]
    intro x
    rw [List.mem_range]
    constructor
    · intro hx
      obtain ⟨a, ha, rfl⟩ := List.mem_map.1 hx
      exact lt a (List.mem_range.1 ha)
    · intro hx
      obtain ⟨a, ha, e⟩ := onto x hx
      exact List.mem_map.2 ⟨a, List.mem_range.2 ha, e⟩
  have := hp.countP_eq P
  rw [List.countP_map] at this
  exact this
theorem placeN_renamed {q q' : Nat → Nat → Bool} {r : Nat} {τ : Nat → Nat} (lt : ∀ a, a < r → τ a < r) (inj : ∀ a b, a < r → b < r → τ a = τ b → a = b) (onto : ∀ b, b < r → ∃ a, a < r ∧ τ a = b) (hq : ∀ a b, a < r → b < r → q' (τ a) (τ b) = q a b) {b : Nat} (hb : b < r) : placeN q' r (τ b) = placeN q r b := by
  unfold placeN
  rw [← countP_renamed lt inj onto (fun a => q' a (τ b))]
  refine List.countP_congr fun a ha => ?_
  rw [hq a b (List.mem_range.1 ha) hb]
/-- the place from behind -/
theorem Lin.place_flip {q : Nat → Nat → Bool} {r : Nat} (L : Lin q r) {b : Nat} (hb : b < r) : placeN (fun x y => q y x) r b + placeN q r b + 1 = r := by
  have h3 : ∀ n, n ≤ r → (List.range n).countP (fun a => q b a) + (List.range n).countP (fun a => q a b) + (if b < n then 1 else 0) = n := by
    intro n
    induction n with
    | zero => intro _; rfl
    | succ n ih =>
      intro hn
      have := ih (by omega)
      rw [List.range_succ, List.countP_append, List.countP_append, List.countP_singleton, List.countP_singleton]
      have c1 : ∀ x : Bool, (if x = true then 1 else 0) = x.toNat := fun x => by cases x <;> rfl
      rw [c1, c1]
      by_cases e : b = n
      · subst e
        rw [L.irr b hb, if_pos (by omega)]
        rw [if_neg (by omega)] at this
        show _ + 0 + (_ + 0) + 1 = _
        omega
      · have hne : (if b < n + 1 then 1 else 0) = (if b < n then 1 else 0) := by
          by_cases hbn : b < n
          · rw [if_pos hbn, if_pos (by omega)]
          · rw [if_neg hbn, if_neg (by omega)]
        rw [hne]
        have two : (q b n).toNat + (q n b).toNat = 1 := by
          rcases L.all b n hb (by omega) e with k | k
          · have k2 : q n b = false := by
              cases h : q n b
              · rfl
              · have := L.trans b n b hb (by omega) hb k h; rw [L.irr b hb] at this; cases this
            rw [k, k2]; rfl
          · have k2 : q b n = false := by
              cases h : q b n
              · rfl
              · have := L.trans n b n (by omega) hb (by omega) k h; rw [L.irr n (by omega)] at this; cases this
            rw [k, k2]; rfl
        omega
  have := h3 r (Nat.le_refl _)
  rw [if_pos hb] at this
  exact this
theorem permQ_place {q1 q2 : Nat → Nat → Bool} {r : Nat} (L2 : Lin q2 r) {a : Nat} (ha : a < r) : (permQ q1 q2 r).getD (placeN q2 r a) 0 = placeN q1 r a := by
  have h := L2.lt ha
  unfold permQ
  rw [List.getD_eq_getElem?_getD, List.getElem?_map, List.getElem?_range h, Option.map_some, Option.getD_some, L2.line ha]
theorem permL_yes {p : List ByteArray} (h : plainB p = true) : permL p = permQ (firstQ (pL p)) (secondQ (pL p)) (gridR p) := by unfold permL; rw [oR_yes h, oF_yes h]
/-- what the law of permutations of plans with rows and columns exchanged asks -/
theorem permTrans_math {p : List ByteArray} (h : plainB p = true) : plainB (namesB (transB p)) = true ∧ (permL p).length = gridR p ∧ (permL (namesB (transB p))).length = gridR p ∧ 1 ≤ gridR p ∧ gridR p ≤ 9 ∧
    ∀ i, i < gridR p → (permL (namesB (transB p))).getD (gridR p - 1 - i) 0 = (permL p).getD i 0 := by
  have hp := plainB_plan h
  have hq := plain_trans h
  obtain ⟨τ, T⟩ := trans_rooms hp
  have L1 := first_lin h; have L2 := second_lin h
  have M2 := second_lin hq
  rw [T.rooms] at M2
  rw [permL_yes h, permL_yes hq, permQ_len, permQ_len, T.rooms]
  refine ⟨hq, rfl, rfl, gridR_pos hp, (planP_of hp).few, fun i hi => ?_⟩
  obtain ⟨a, ha, rfl⟩ := L2.surj hi
  rw [permQ_place L2 ha]
  have e1 : placeN (firstQ (pL (namesB (transB p)))) (gridR p) (τ a) = placeN (firstQ (pL p)) (gridR p) a := placeN_renamed T.lt T.inj T.onto (fun x y hx hy => by
    unfold firstQ; rw [T.left x y hx hy, T.above x y hx hy, Bool.or_comm]) ha
  have e2 : placeN (secondQ (pL (namesB (transB p)))) (gridR p) (τ a) = placeN (fun x y => secondQ (pL p) y x) (gridR p) a := placeN_renamed T.lt T.inj T.onto (fun x y hx hy => by
    unfold secondQ; rw [T.left x y hx hy, T.above y x hy hx, Bool.or_comm]) ha
  have e3 := L2.place_flip ha
  rw [show gridR p - 1 - placeN (secondQ (pL p)) (gridR p) a = placeN (secondQ (pL (namesB (transB p)))) (gridR p) (τ a) by rw [e2]; omega, permQ_place M2 (T.lt a ha), e1]

/-! ## growing parts of permutations -/
theorem lessQ_lin (r : Nat) : Lin (fun a b => decide (a < b)) r :=
  ⟨fun a _ => by simp, fun a b _ _ hne => by simp; omega, fun a b c _ _ _ h1 h2 => by simp at *; omega⟩
/-- earlier and less, earlier and not less -/
def lisU (x : List Nat) (r k i : Nat) : Bool := decide (k < i) && decide (i < r) && decide (x.getD k 0 < x.getD i 0)
def lisD (x : List Nat) (r k i : Nat) : Bool := decide (k < i) && decide (i < r) && decide (¬ x.getD k 0 < x.getD i 0)
theorem lisU_goes (x : List Nat) (r : Nat) : Goes (lisU x r) (fun a b => decide (a < b)) r := ⟨lessQ_lin r, fun a b h => by unfold lisU at h; simp at h; simp; omega⟩
theorem lisD_goes (x : List Nat) (r : Nat) : Goes (lisD x r) (fun a b => decide (a < b)) r := ⟨lessQ_lin r, fun a b h => by unfold lisD at h; simp at h; simp; omega⟩
theorem end_renamed {f f' : Nat → Nat → Bool} {r : Nat} {τ : Nat → Nat} (lt : ∀ a, a < r → τ a < r) (onto : ∀ b, b < r → ∃ a, a < r ∧ τ a = b) (hf : ∀ a b, a < r → b < r → f' (τ a) (τ b) = f a b) : endS f' (fun _ => 1) r = endS f (fun _ => 1) r := by
  have hw : ∀ b, b < r → sumS f' (fun _ => 1) r (τ b) = sumS f (fun _ => 1) r b := fun b hb => sum_map lt onto hf (fun _ _ => rfl) _ b hb
  apply Nat.le_antisymm
  · refine (eM_le r).2 fun b hb => ?_
    obtain ⟨a, ha, rfl⟩ := onto b hb
    show sumS f' (fun _ => 1) r (τ a) + 1 ≤ _
    rw [hw a ha]
    exact end_each (d := fun _ => 1) ha
  · refine (eM_le r).2 fun a ha => ?_
    show sumS f (fun _ => 1) r a + 1 ≤ _
    rw [← hw a ha]
    exact end_each (d := fun _ => 1) (lt a ha)
theorem firstQ_not {p : List ByteArray} (h : plainB p = true) {a b : Nat} (ha : a < gridR p) (hb : b < gridR p) : pL p 0 a b = (firstQ (pL p) a b && secondQ (pL p) a b) ∧ pL p 1 b a = (firstQ (pL p) b a && secondQ (pL p) a b) := by
  unfold firstQ secondQ
  by_cases e : a = b
  · subst e
    rw [pL_self h ha 0 (by omega), pL_self h ha 1 (by omega)]; exact ⟨rfl, rfl⟩
  · rcases pL_some (plainB_plan h) ha hb e with k | k | k | k
    · obtain ⟨k1, k2, k3⟩ := pL_one h ha hb k; rw [k, k1, k2, k3]; exact ⟨rfl, rfl⟩
    · obtain ⟨k1, k2, k3⟩ := pL_one h hb ha k; rw [k, k1, k2, k3]; exact ⟨rfl, rfl⟩
    · obtain ⟨k1, k2, k3⟩ := pL_over h ha hb k; rw [k, k1, k2, k3]; exact ⟨rfl, rfl⟩
    · obtain ⟨k1, k2, k3⟩ := pL_over h hb ha k; rw [k, k1, k2, k3]; exact ⟨rfl, rfl⟩
theorem Lin.place_iff {q : Nat → Nat → Bool} {r a b : Nat} (L : Lin q r) (ha : a < r) (hb : b < r) : q a b = decide (placeN q r a < placeN q r b) := by
  rw [Bool.eq_iff_iff, decide_eq_true_eq]
  constructor
  · exact L.mono ha hb
  · intro h
    by_cases e : a = b
    · subst e; omega
    · rcases L.all a b ha hb e with k | k
      · exact k
      · have := L.mono hb ha k; omega
/-- what the law of growing parts asks -/
theorem longPerm_math {p : List ByteArray} (h : plainB p = true) : (permL p).length = gridR p ∧ 1 ≤ gridR p ∧ gridR p ≤ 9 ∧ endS (lisU (permL p) (gridR p)) (fun _ => 1) (gridR p) = longP p 0 ∧ endS (lisD (permL p) (gridR p)) (fun _ => 1) (gridR p) = longP p 1 := by
  have hp := plainB_plan h
  have L1 := first_lin h; have L2 := second_lin h
  have lt : ∀ a, a < gridR p → placeN (secondQ (pL p)) (gridR p) a < gridR p := fun a ha => L2.lt ha
  have onto : ∀ b, b < gridR p → ∃ a, a < gridR p ∧ placeN (secondQ (pL p)) (gridR p) a = b := fun b hb => L2.surj hb
  have hx : ∀ a, a < gridR p → (permL p).getD (placeN (secondQ (pL p)) (gridR p) a) 0 = placeN (firstQ (pL p)) (gridR p) a := fun a ha => by rw [permL_yes h, permQ_place L2 ha]
  have e0 := end_renamed (f := pL p 0) (f' := lisU (permL p) (gridR p)) lt onto (fun a b ha hb => by
    unfold lisU
    rw [hx a ha, hx b hb, (firstQ_not h ha hb).1, L1.place_iff ha hb, L2.place_iff ha hb, decide_eq_true (lt b hb), Bool.and_true, Bool.and_comm])
  have e1 := end_renamed (f := flipQ (pL p 1)) (f' := lisD (permL p) (gridR p)) lt onto (fun a b ha hb => by
    unfold lisD flipQ
    rw [hx a ha, hx b hb, (firstQ_not h ha hb).2, L1.place_iff hb ha, L2.place_iff ha hb, decide_eq_true (lt b hb), Bool.and_true]
    rw [Bool.eq_iff_iff, Bool.and_eq_true, Bool.and_eq_true, decide_eq_true_eq, decide_eq_true_eq, decide_eq_true_eq]
    constructor
    · rintro ⟨k1, k2⟩
      refine ⟨?_, k1⟩
      rcases Nat.lt_or_ge (placeN (firstQ (pL p)) (gridR p) b) (placeN (firstQ (pL p)) (gridR p) a) with k | k
      · exact k
      · have e : placeN (firstQ (pL p)) (gridR p) a = placeN (firstQ (pL p)) (gridR p) b := by omega
        have := L1.inj ha hb e
        subst this; omega
    · rintro ⟨k1, k2⟩; exact ⟨k2, by omega⟩)
  have G0 := pL_goes h (way := 0) (by omega)
  have G1 := pL_goes h (way := 1) (by omega)
  refine ⟨by rw [permL_yes h, permQ_len], gridR_pos hp, (planP_of hp).few, ?_, ?_⟩
  · rw [e0, longP_yes h, G0.ones_long]
  · rw [e1, longP_yes h, G1.flip.ones_long]
    apply nat_ext
    intro n
    rw [G1.flip.long, G1.long]
    constructor
    · rintro ⟨a, b, k⟩; exact ⟨b, a, k.rev⟩
    · rintro ⟨a, b, k⟩; exact ⟨b, a, k.rev⟩
/-- rooms of two plans in the same orders -/
structure SamR (p q : List ByteArray) (τ : Nat → Nat) : Prop where
  rooms : gridR q = gridR p
  lt : ∀ a, a < gridR p → τ a < gridR p
  inj : ∀ a b, a < gridR p → b < gridR p → τ a = τ b → a = b
  onto : ∀ b, b < gridR p → ∃ a, a < gridR p ∧ τ a = b
  left : ∀ a b, a < gridR p → b < gridR p → pL q 0 (τ a) (τ b) = pL p 0 a b
  above : ∀ a b, a < gridR p → b < gridR p → pL q 1 (τ a) (τ b) = pL p 1 a b
theorem SamR.perm {p q : List ByteArray} {τ : Nat → Nat} (S : SamR p q τ) (h : plainB p = true) (hq : plainB q = true) : permL q = permL p := by
  have L2 := second_lin h
  have M2 := second_lin hq
  rw [S.rooms] at M2
  rw [permL_yes h, permL_yes hq, S.rooms]
  have e1 : ∀ a, a < gridR p → placeN (firstQ (pL q)) (gridR p) (τ a) = placeN (firstQ (pL p)) (gridR p) a := fun a ha => placeN_renamed S.lt S.inj S.onto (fun x y hx hy => by
    unfold firstQ; rw [S.left x y hx hy, S.above x y hx hy]) ha
  have e2 : ∀ a, a < gridR p → placeN (secondQ (pL q)) (gridR p) (τ a) = placeN (secondQ (pL p)) (gridR p) a := fun a ha => placeN_renamed S.lt S.inj S.onto (fun x y hx hy => by
    unfold secondQ; rw [S.left x y hx hy, S.above y x hy hx]) ha
  refine List.ext_getElem (by rw [permQ_len, permQ_len]) fun i h1 h2 => ?_
  have hi : i < gridR p := by rwa [permQ_len] at h2
  obtain ⟨a, ha, rfl⟩ := L2.surj hi
  have k1 := permQ_place (q1 := firstQ (pL p)) L2 ha
  have k2 := permQ_place (q1 := firstQ (pL q)) M2 (S.lt a ha)
  rw [e2 a ha, e1 a ha] at k2
  rw [List.getD_eq_getElem?_getD, List.getElem?_eq_getElem h2, Option.getD_some] at k1
  rw [List.getD_eq_getElem?_getD, List.getElem?_eq_getElem h1, Option.getD_some] at k2
  rw [k1, k2]

end Go.Proofs.Ytamfnahbhhmiiaa
