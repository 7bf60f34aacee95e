/-
  Widths along cuts are least widths. (Plain mathematics.)
-/
import Derived.Test.YtobkbgbkkiiloaaGreatSizFc1
import Derived.Test.YtobkbgbkkiiloaaGreatCutOc1
import Derived.Test.YtobkbgbkkiiloaaGreatGuiZc1

namespace Go.Proofs.YtobkbgbkkiiloaaGreat

def sumD (d : Nat → Nat) (L : List Nat) : Nat := (L.map d).sum
theorem sumD_cons (d : Nat → Nat) (a : Nat) (L : List Nat) : sumD d (a :: L) = d a + sumD d L := by simp [sumD]
theorem sumD_app (d : Nat → Nat) (L M : List Nat) : sumD d (L ++ M) = sumD d L + sumD d M := by simp [sumD]
theorem sumD_parts (d : Nat → Nat) (P : Nat → Bool) : ∀ L : List Nat, sumD d L = sumD d (L.filter P) + sumD d (L.filter fun a => !P a)
  | [] => rfl
  | a :: L => by
    have := sumD_parts d P L
    rw [sumD_cons]
    cases e : P a
    · rw [List.filter_cons_of_neg (by rw [e]; decide), List.filter_cons_of_pos (by simp [e]), sumD_cons]; omega
    · rw [List.filter_cons_of_pos e, List.filter_cons_of_neg (by simp [e]), sumD_cons]; omega

/-! ## rows of rooms and the least width -/
theorem Goes.row_le {f q : Nat → Nat → Bool} {r : Nat} {d : Nat → Nat} (G : Goes f q r) : ∀ (L : List Nat) (a : Nat), a < r → (∀ b ∈ L, f a b = true) → L.Pairwise (fun x y => f x y = true) → sumS f d r a + d a + sumD d L ≤ endS f d r
  | [], a, ha, _, _ => end_each ha
  | b :: L, a, ha, h1, h2 => by
    rw [sumD_cons]
    rw [List.pairwise_cons] at h2
    have hf := h1 b List.mem_cons_self
    have k1 := G.row_le (d := d) L b (G.imp _ _ hf).2.1 h2.1 h2.2
    have k2 := G.sum_up (d := d) hf
    omega
theorem Goes.rows_le {f q : Nat → Nat → Bool} {r : Nat} {d : Nat → Nat} (G : Goes f q r) {L : List Nat} (h0 : ∀ a ∈ L, a < r) (h : L.Pairwise (fun x y => f x y = true)) : sumD d L ≤ endS f d r := by
  cases L with
  | nil => exact Nat.zero_le _
  | cons a L =>
    rw [List.pairwise_cons] at h
    have := G.row_le (d := d) L a (h0 a List.mem_cons_self) h.1 h.2
    rw [sumD_cons]; omega
theorem Goes.row_some {f q : Nat → Nat → Bool} {r : Nat} {d : Nat → Nat} (G : Goes f q r) (ht : ∀ a b c, f a b = true → f b c = true → f a c = true) : ∀ n b, b < r → placeN q r b ≤ n → ∃ L : List Nat, (∀ a ∈ L, a < r ∧ f a b = true) ∧ L.Pairwise (fun x y => f x y = true) ∧ sumD d L = sumS f d r b
  | n, b, hb, hn => by
    rcases G.sum_some (d := d) hb with h0 | ⟨a, ha, hf, he⟩
    · exact ⟨[], fun a ha => (List.not_mem_nil ha).elim, List.Pairwise.nil, by rw [h0]; rfl⟩
    · have hr := G.rank hf
      match n, hn with
      | 0, hn => omega
      | n + 1, hn =>
        obtain ⟨L, h1, h2, h3⟩ := G.row_some ht n a ha (by omega)
        refine ⟨L ++ [a], fun x hx => ?_, ?_, ?_⟩
        · rcases List.mem_append.1 hx with k | k
          · exact ⟨(h1 x k).1, ht _ _ _ (h1 x k).2 hf⟩
          · rw [List.mem_singleton.1 k]; exact ⟨ha, hf⟩
        · rw [List.pairwise_append]
          exact ⟨h2, List.pairwise_singleton _ _, fun x hx y hy => by rw [List.mem_singleton.1 hy]; exact (h1 x hx).2⟩
        · rw [sumD_app, h3, he]; simp [sumD]
theorem Goes.rows_some {f q : Nat → Nat → Bool} {r : Nat} {d : Nat → Nat} (G : Goes f q r) (hr : 1 ≤ r) (hd : ∀ a, a < r → 1 ≤ d a) (ht : ∀ a b c, f a b = true → f b c = true → f a c = true) : ∃ L : List Nat, (∀ a ∈ L, a < r) ∧ L.Pairwise (fun x y => f x y = true) ∧ sumD d L = endS f d r := by
  obtain ⟨b, hb, he⟩ := end_some (f := f) hr hd
  obtain ⟨L, h1, h2, h3⟩ := G.row_some (d := d) ht _ b hb (Nat.le_refl _)
  refine ⟨L ++ [b], fun x hx => ?_, ?_, ?_⟩
  · rcases List.mem_append.1 hx with k | k
    · exact (h1 x k).1
    · rw [List.mem_singleton.1 k]; exact hb
  · rw [List.pairwise_append]
    exact ⟨h2, List.pairwise_singleton _ _, fun x hx y hy => by rw [List.mem_singleton.1 hy]; exact (h1 x hx).2⟩
  · rw [sumD_app, h3, he]; simp [sumD]

/-! ## along cuts -/
theorem Rc.Clo.one_in {R : Rc} {g : Nat → Nat → Nat} {h wd : Nat} (C : R.Clo g h wd) : R.has R.r0 R.c0 := by
  have := C.fit.h1; have := C.fit.w1
  exact ⟨by omega, by omega, by omega, by omega⟩
/-- rows of rooms of a rectangle -/
theorem tree_rows {h wd : Nat} {g : Nat → Nat → Nat} {f q : Nat → Nat → Bool} {r : Nat} {d : Nat → Nat} (hr : RectG h wd g) (nx : NoX h wd g) (hfl : ∀ a b, f a b = true ↔ LL h wd g a b) (G : Goes f q r)
    (hsome : ∀ a b, (∃ i j, i < h ∧ j < wd ∧ g i j = a) → (∃ i j, i < h ∧ j < wd ∧ g i j = b) → a ≠ b → LL h wd g a b ∨ LL h wd g b a ∨ AA h wd g a b ∨ AA h wd g b a)
    (hno : ∀ a b, (∃ i j, i < h ∧ j < wd ∧ g i j = a) → (∃ i j, i < h ∧ j < wd ∧ g i j = b) → AA h wd g a b → ¬ LL h wd g a b ∧ ¬ LL h wd g b a) :
    ∀ (n : Nat) (R : Rc) (t : Tr), R.Clo g h wd → R.Conv h wd g → R.tree g n = some t →
      (∀ L : List Nat, (∀ a ∈ L, R.In g a) → L.Pairwise (fun x y => f x y = true) → sumD d L ≤ sizeT d t) ∧ ∃ L : List Nat, (∀ a ∈ L, R.In g a) ∧ L.Pairwise (fun x y => f x y = true) ∧ sumD d L = sizeT d t
  | 0, R, t, _, _, ht => by cases ht
  | n + 1, R, t, C, V, ht => by
    cases h1 : R.one g
    · cases hc : (R.cuts g).head? with
      | none => rw [Rc.tree_no h1 hc] at ht; cases ht
      | some c =>
        obtain ⟨hm1, hi, hf⟩ := Rc.cuts_mem (head_cut hc)
        rw [Rc.tree_cut h1 hc] at ht
        cases h2 : (R.left c).tree g n with
        | none => rw [h2] at ht; cases ht
        | some u =>
          cases h3 : (R.right c).tree g n with
          | none => rw [h2, h3] at ht; cases ht
          | some v =>
            rw [h2, h3] at ht
            cases ht
            have Cl := C.left hr hi hf
            have Cr := C.right hr hi hf
            obtain ⟨Vl, Vr⟩ := V.parts hr nx C hi hf
            obtain ⟨l1, Ll, l2, l3, l4⟩ := tree_rows hr nx hfl G hsome hno n (R.left c) u Cl Vl h2
            obtain ⟨r1, Lr, r2, r3, r4⟩ := tree_rows hr nx hfl G hsome hno n (R.right c) v Cr Vr h3
            have two : ∀ a, R.In g a → ¬ (R.left c).In g a → (R.right c).In g a := by
              rintro a ⟨i, j, hij, rfl⟩ hn
              rw [in_right hr C hi hf hij]
              rw [in_left hr C hi hf hij] at hn
              omega
            by_cases h0 : c.1 = 0
            · have hs : sizeT d (.cut c.1 c.2 u v) = sizeT d u + sizeT d v := if_pos h0
              rw [hs]
              constructor
              · intro L hL hp
                letI : DecidablePred fun a => (R.left c).In g a := fun _ => Classical.propDecidable _
                have k1 := l1 (L.filter fun a => decide ((R.left c).In g a)) (fun a ha => by have := (List.mem_filter.1 ha).2; rwa [decide_eq_true_eq] at this) (hp.filter _)
                have k2 := r1 (L.filter fun a => !decide ((R.left c).In g a)) (fun a ha => two a (hL a (List.mem_filter.1 ha).1) (by have := (List.mem_filter.1 ha).2; rwa [Bool.not_eq_true', decide_eq_false_iff_not] at this)) (hp.filter _)
                exact Nat.le_trans (Nat.le_of_eq (sumD_parts d (fun a => decide ((R.left c).In g a)) L)) (Nat.add_le_add k1 k2)
              · refine ⟨Ll ++ Lr, fun a ha => ?_, ?_, by rw [sumD_app, l4, r4]⟩
                · rcases List.mem_append.1 ha with k | k
                  · exact Rc.left_in hi (l2 a k)
                  · exact Rc.right_in hi (r2 a k)
                · rw [List.pairwise_append]
                  refine ⟨l3, r3, fun a ha b hb => ?_⟩
                  have := cut_orders hr nx hsome C V hi hf (l2 a ha) (r2 b hb)
                  rw [if_pos h0] at this
                  exact (hfl a b).2 this
            · have hs : sizeT d (.cut c.1 c.2 u v) = max (sizeT d u) (sizeT d v) := if_neg h0
              rw [hs]
              constructor
              · intro L hL hp
                have side : (∀ a ∈ L, (R.left c).In g a) ∨ (∀ a ∈ L, (R.right c).In g a) := by
                  have no : ∀ a b, (R.left c).In g a → (R.right c).In g b → f a b = false ∧ f b a = false := fun a b ha hb => by
                    have := cut_orders hr nx hsome C V hi hf ha hb
                    rw [if_neg h0] at this
                    have k := hno a b (Rc.in_cell Cl ha) (Rc.in_cell Cr hb) this
                    rw [← hfl, ← hfl] at k
                    exact ⟨by simpa using k.1, by simpa using k.2⟩
                  clear l1 r1 l2 r2 l3 r3 l4 r4
                  induction L with
                  | nil => exact .inl fun a ha => (List.not_mem_nil ha).elim
                  | cons x L ih =>
                    rw [List.pairwise_cons] at hp
                    by_cases hx : (R.left c).In g x
                    · left
                      intro a ha
                      rcases List.mem_cons.1 ha with e | e
                      · rw [e]; exact hx
                      · apply Classical.byContradiction
                        intro hn
                        have := (no x a hx (two a (hL a ha) hn)).1
                        rw [hp.1 a e] at this; cases this
                    · right
                      have hx2 := two x (hL x List.mem_cons_self) hx
                      intro a ha
                      rcases List.mem_cons.1 ha with e | e
                      · rw [e]; exact hx2
                      · apply Classical.byContradiction
                        intro hn
                        have hal : (R.left c).In g a := Classical.byContradiction fun hq => hn (two a (hL a ha) hq)
                        have := (no a x hal hx2).2
                        rw [hp.1 a e] at this; cases this
                rcases side with k | k
                · have := l1 L k hp; omega
                · have := r1 L k hp; omega
              · rcases Nat.le_total (sizeT d u) (sizeT d v) with k | k
                · exact ⟨Lr, fun a ha => Rc.right_in hi (r2 a ha), r3, by rw [r4]; omega⟩
                · exact ⟨Ll, fun a ha => Rc.left_in hi (l2 a ha), l3, by rw [l4]; omega⟩
    · rw [Rc.tree_one h1] at ht
      cases ht
      have hone := Rc.one_iff.1 h1
      have hs : sizeT d (.room (g R.r0 R.c0)) = d (g R.r0 R.c0) := rfl
      rw [hs]
      have all : ∀ a, R.In g a → a = g R.r0 R.c0 := by
        rintro a ⟨i, j, hij, rfl⟩; exact hone i j hij
      have hin := C.one_in
      constructor
      · intro L hL hp
        match L, hL, hp with
        | [], _, _ => exact Nat.zero_le _
        | [a], hL, _ => rw [all a (hL a List.mem_cons_self)]; simp [sumD]
        | a :: b :: L, hL, hp =>
          exfalso
          rw [List.pairwise_cons] at hp
          have h5 := hp.1 b List.mem_cons_self
          have := G.rank h5
          rw [all a (hL a List.mem_cons_self), all b (hL b (List.mem_cons_of_mem _ List.mem_cons_self))] at this
          omega
      · exact ⟨[g R.r0 R.c0], fun a ha => by rw [List.mem_singleton.1 ha]; exact ⟨_, _, hin, rfl⟩, List.pairwise_singleton _ _, by simp [sumD]⟩

/-- what the law of widths along cuts asks -/
theorem sizeCut_math {p : List ByteArray} {l : List Int} (h : sizedB p l = true) (ht : (treeP p).isSome = true) : cutV p l = wideV p l 0 := by
  obtain ⟨h1, h2, h3, h4, h5, h6⟩ := sized_facts h
  have hp := plainB_plan h1
  have hP := planP_of hp
  have G := pL_goes h1 (way := 0) (by omega)
  obtain ⟨t, et⟩ := Option.isSome_iff_exists.1 ht
  have e1 : cutV p l = sizeT (dN l) t := by unfold cutV; rw [if_pos h, et]; rfl
  rw [e1, wideV_yes h]
  rw [treeP_yes hp] at et
  have cell : ∀ a, a < gridR p → (allR p).In (gridG p) a := fun a ha => by
    obtain ⟨i, j, hi, hj, e⟩ := room_at ha
    exact ⟨i, j, ⟨Nat.zero_le _, by show i < 0 + p.length; omega, Nat.zero_le _, by show j < 0 + wideB p; omega⟩, e⟩
  have lt : ∀ a, (∃ i j, i < p.length ∧ j < wideB p ∧ gridG p i j = a) → a < gridR p := by
    rintro a ⟨i, j, hi, hj, rfl⟩; exact gridG_lt hi hj
  obtain ⟨k1, L, k2, k3, k4⟩ := tree_rows (d := dN l) hP.rectG (noX_of h1) (fun a b => pL_left) G (fun a b ha hb hne => by
      have := pL_some hp (lt a ha) (lt b hb) hne
      rwa [pL_left, pL_left, pL_above, pL_above] at this) (fun a b ha hb hab => by
      have := pL_over h1 (lt a ha) (lt b hb) (pL_above.2 hab)
      rw [← pL_left, ← pL_left, this.2.1, this.2.2]
      exact ⟨by decide, by decide⟩) 12 (allR p) t (allR_clo hp) (fun a b x _ _ hx _ => cell x (lt x hx)) et
  have tr : ∀ a b c, pL p 0 a b = true → pL p 0 b c = true → pL p 0 a c = true := fun a b c => pL_trans (by omega)
  obtain ⟨M, m1, m2, m3⟩ := G.rows_some h5 (d := dN l) (fun a ha => (needB_at h3 (by omega)).2.1) tr
  apply Nat.le_antisymm
  · rw [← k4]
    exact G.rows_le (fun a ha => lt a (Rc.in_cell (allR_clo hp) (k2 a ha))) k3
  · rw [← m3]
    exact k1 M (fun a ha => cell a (m1 a ha)) m2
end Go.Proofs.YtobkbgbkkiiloaaGreat
