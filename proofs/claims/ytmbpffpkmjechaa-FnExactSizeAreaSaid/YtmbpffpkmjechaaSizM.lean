
/-
  Greatest sums of needs of rooms each of which leads to the next one. (Plain mathematics: no function is named.)
-/
import Derived.Test.YtmbpffpkmjechaaLon
namespace Go.Proofs.Ytmbpffpkmjechaa

/-- the greatest of what comes of those that lead to a room, of the first ones -/
def gM (f : Nat → Nat → Bool) (v : Nat → Nat) (b : Nat) : Nat → Nat
  | 0 => 0
  | i + 1 => if f i b = true then max (gM f v b i) (v i) else gM f v b i
theorem gM_yes {f : Nat → Nat → Bool} {v : Nat → Nat} {b i : Nat} (h : f i b = true) : gM f v b (i + 1) = max (gM f v b i) (v i) := by
  show (if f i b = true then _ else _) = _
  rw [if_pos h]
theorem gM_no {f : Nat → Nat → Bool} {v : Nat → Nat} {b i : Nat} (h : f i b = false) : gM f v b (i + 1) = gM f v b i := by
  show (if f i b = true then _ else _) = _
  rw [h]; rfl
theorem gM_le {f : Nat → Nat → Bool} {v : Nat → Nat} {b m : Nat} : ∀ i, gM f v b i ≤ m ↔ ∀ a, a < i → f a b = true → v a ≤ m
  | 0 => ⟨fun _ a ha => by omega, fun _ => Nat.zero_le _⟩
  | i + 1 => by
    have ih := gM_le (f := f) (v := v) (b := b) (m := m) i
    cases h : f i b
    · rw [gM_no h, ih]
      constructor
      · intro k a ha hf
        by_cases e : a = i
        · rw [e, h] at hf; cases hf
        · exact k a (by omega) hf
      · exact fun k a ha hf => k a (by omega) hf
    · rw [gM_yes h, Nat.max_le, ih]
      constructor
      · rintro ⟨k, k2⟩ a ha hf
        by_cases e : a = i
        · rw [e]; exact k2
        · exact k a (by omega) hf
      · exact fun k => ⟨fun a ha hf => k a (by omega) hf, k i (by omega) h⟩
theorem gM_congr {f : Nat → Nat → Bool} {v v' : Nat → Nat} {b : Nat} {i : Nat} (h : ∀ a, a < i → f a b = true → v a = v' a) : gM f v b i = gM f v' b i := by
  apply Nat.le_antisymm
  · rw [gM_le]; intro a ha hf; rw [h a ha hf]; exact (gM_le i).1 (Nat.le_refl _) a ha hf
  · rw [gM_le]; intro a ha hf; rw [← h a ha hf]; exact (gM_le i).1 (Nat.le_refl _) a ha hf
theorem gM_some {f : Nat → Nat → Bool} {v : Nat → Nat} {b : Nat} : ∀ i, gM f v b i = 0 ∨ ∃ a, a < i ∧ f a b = true ∧ gM f v b i = v a
  | 0 => .inl rfl
  | i + 1 => by
    cases h : f i b
    · rw [gM_no h]
      rcases gM_some (f := f) (v := v) (b := b) i with k | ⟨a, h1, h2, h3⟩
      · exact .inl k
      · exact .inr ⟨a, by omega, h2, h3⟩
    · rw [gM_yes h]
      by_cases hm : gM f v b i ≤ v i
      · exact .inr ⟨i, by omega, h, by omega⟩
      · rcases gM_some (f := f) (v := v) (b := b) i with k | ⟨a, h1, h2, h3⟩
        · omega
        · exact .inr ⟨a, by omega, h2, by omega⟩
/-- greatest sums of at most k -/
def wK (f : Nat → Nat → Bool) (d : Nat → Nat) (r : Nat) : Nat → Nat → Nat
  | 0, _ => 0
  | k + 1, b => gM f (fun a => wK f d r k a + d a) b r
theorem wK_succ (f : Nat → Nat → Bool) (d : Nat → Nat) (r k b : Nat) : wK f d r (k + 1) b = gM f (fun a => wK f d r k a + d a) b r := rfl
theorem Goes.rank {f q : Nat → Nat → Bool} {r a b : Nat} (G : Goes f q r) (h : f a b = true) : placeN q r a < placeN q r b := G.lin.mono (G.imp _ _ h).1 (G.imp _ _ h).2.1 (G.imp _ _ h).2.2
theorem Goes.wK_same {f q : Nat → Nat → Bool} {r : Nat} {d : Nat → Nat} (G : Goes f q r) : ∀ n k k' b, b < r → placeN q r b ≤ n → n ≤ k → n ≤ k' → wK f d r k b = wK f d r k' b
  | 0, k, k', b, hb, hp, _, _ => by
    have z : ∀ k, wK f d r k b = 0 := fun k => by
      cases k with
      | zero => rfl
      | succ k =>
        rw [wK_succ]
        exact Nat.le_zero.1 ((gM_le r).2 fun a ha hf => by have := G.rank hf; omega)
    rw [z, z]
  | n + 1, k, k', b, hb, hp, hk, hk' => by
    obtain ⟨j, rfl⟩ : ∃ j, k = j + 1 := ⟨k - 1, by omega⟩
    obtain ⟨j', rfl⟩ : ∃ j, k' = j + 1 := ⟨k' - 1, by omega⟩
    rw [wK_succ, wK_succ]
    refine gM_congr fun a ha hf => ?_
    have := G.rank hf
    rw [G.wK_same n j j' a ha (by omega) (by omega) (by omega)]
/-- the greatest sum ahead of a room -/
def sumS (f : Nat → Nat → Bool) (d : Nat → Nat) (r b : Nat) : Nat := wK f d r r b
theorem Goes.sum_fix {f q : Nat → Nat → Bool} {r b : Nat} {d : Nat → Nat} (G : Goes f q r) (hb : b < r) : gM f (fun a => sumS f d r a + d a) b r = sumS f d r b :=
  (G.wK_same (d := d) r (r + 1) r b hb (Nat.le_of_lt (G.lin.lt hb)) (by omega) (Nat.le_refl _))
theorem Goes.sum_up {f q : Nat → Nat → Bool} {r a b : Nat} {d : Nat → Nat} (G : Goes f q r) (hf : f a b = true) : sumS f d r a + d a ≤ sumS f d r b := by
  rw [← G.sum_fix (G.imp _ _ hf).2.1]
  exact (gM_le (v := fun a => sumS f d r a + d a) r).1 (Nat.le_refl _) a (G.imp _ _ hf).1 hf
theorem Goes.sum_some {f q : Nat → Nat → Bool} {r b : Nat} {d : Nat → Nat} (G : Goes f q r) (hb : b < r) : sumS f d r b = 0 ∨ ∃ a, a < r ∧ f a b = true ∧ sumS f d r b = sumS f d r a + d a := by
  have h := gM_some (f := f) (v := fun a => sumS f d r a + d a) (b := b) r
  rw [G.sum_fix hb] at h
  exact h
theorem Goes.wK_few {f q : Nat → Nat → Bool} {r : Nat} {d : Nat → Nat} (G : Goes f q r) (hd : ∀ a, a < r → d a ≤ 9) : ∀ k b, b < r → wK f d r k b ≤ 9 * placeN q r b
  | 0, _, _ => Nat.zero_le _
  | k + 1, b, hb => by
    rw [wK_succ, gM_le]
    intro a ha hf
    have h1 := G.wK_few hd k a ha
    have h2 := G.rank hf
    have h3 := hd a ha
    show wK f d r k a + d a ≤ _
    omega
theorem Goes.sum_few {f q : Nat → Nat → Bool} {r b : Nat} {d : Nat → Nat} (G : Goes f q r) (hd : ∀ a, a < r → d a ≤ 9) (hb : b < r) (hr : r ≤ 9) : sumS f d r b ≤ 72 := by
  have h1 := G.wK_few hd r b hb
  have h2 := G.lin.lt hb
  unfold sumS
  omega
theorem Goes.wK_le {f q : Nat → Nat → Bool} {r : Nat} {d : Nat → Nat} (G : Goes f q r) : ∀ k b, b < r → wK f d r k b ≤ sumS f d r b
  | 0, _, _ => Nat.zero_le _
  | k + 1, b, hb => by
    rw [wK_succ, gM_le]
    intro a ha hf
    exact Nat.le_trans (Nat.add_le_add_right (G.wK_le k a ha) _) (G.sum_up hf)

/-- the greatest of the first ones -/
def eM (v : Nat → Nat) : Nat → Nat
  | 0 => 0
  | i + 1 => max (eM v i) (v i)
theorem eM_le {v : Nat → Nat} {m : Nat} : ∀ i, eM v i ≤ m ↔ ∀ a, a < i → v a ≤ m
  | 0 => ⟨fun _ a ha => by omega, fun _ => Nat.zero_le _⟩
  | i + 1 => by
    unfold eM
    rw [Nat.max_le, eM_le i]
    constructor
    · rintro ⟨k, k2⟩ a ha
      by_cases e : a = i
      · rw [e]; exact k2
      · exact k a (by omega)
    · exact fun k => ⟨fun a ha => k a (by omega), k i (by omega)⟩
/-- the least width: the greatest end -/
def endS (f : Nat → Nat → Bool) (d : Nat → Nat) (r : Nat) : Nat := eM (fun a => sumS f d r a + d a) r
def sumL (f : Nat → Nat → Bool) (d : Nat → Nat) (r : Nat) : List Nat := (List.range r).map (sumS f d r)
theorem sumL_len (f : Nat → Nat → Bool) (d : Nat → Nat) (r : Nat) : (sumL f d r).length = r := by simp [sumL]
theorem sumL_at {f : Nat → Nat → Bool} {d : Nat → Nat} {r b : Nat} (hb : b < r) : (sumL f d r).getD b 0 = sumS f d r b := by simp [sumL, hb]

/-! # going on from room to room, as often as there are rooms -/
structure WaJ (f : Nat → Nat → Bool) (d : Nat → Nat) (r t a j : Nat) (S : List Nat) : Prop where
  len : S.length = r
  up : ∀ b, b < r → S.getD b 0 ≤ sumS f d r b
  lo : ∀ b, b < r → wK f d r t b ≤ S.getD b 0
  part : ∀ b, b < r → gM f (fun a => wK f d r t a + d a) b (if b < j then a + 1 else a) ≤ S.getD b 0
theorem WaJ.start (f : Nat → Nat → Bool) (d : Nat → Nat) (r : Nat) : WaJ f d r 0 0 0 (List.replicate r 0) :=
  ⟨by simp, fun b hb => by simp [hb], fun b hb => Nat.zero_le _, fun b hb => by rw [if_neg (by omega)]; exact Nat.zero_le _⟩
theorem WaJ.skip {f : Nat → Nat → Bool} {d : Nat → Nat} {r t a j : Nat} {S : List Nat} (h : WaJ f d r t a j S) (hf : f a j = false) : WaJ f d r t a (j + 1) S := by
  refine ⟨h.len, h.up, h.lo, fun b hb => ?_⟩
  have := h.part b hb
  by_cases e : b = j
  · subst e
    rw [if_neg (by omega)] at this
    rw [if_pos (by omega), gM_no hf]; exact this
  · by_cases hl : b < j
    · rw [if_pos hl] at this; rw [if_pos (by omega)]; exact this
    · rw [if_neg hl] at this; rw [if_neg (by omega)]; exact this
theorem WaJ.step {f q : Nat → Nat → Bool} {d : Nat → Nat} {r t a j : Nat} {S : List Nat} (G : Goes f q r) (h : WaJ f d r t a j S) (hf : f a j = true) : WaJ f d r t a (j + 1) (S.set j (max (S.getD j 0) (S.getD a 0 + d a))) := by
  obtain ⟨ha, hj, _⟩ := G.imp _ _ hf
  have hs := G.sum_up (d := d) hf
  have hua := h.up a ha
  have huj := h.up j hj
  have hla := h.lo a ha
  have hg : ∀ b, (S.set j (max (S.getD j 0) (S.getD a 0 + d a))).getD b 0 = if b = j then max (S.getD j 0) (S.getD a 0 + d a) else S.getD b 0 := fun b => getD_set S j b _ (by rw [h.len]; exact hj)
  refine ⟨by rw [List.length_set]; exact h.len, fun b hb => ?_, fun b hb => ?_, fun b hb => ?_⟩
  · rw [hg]; split
    · next e => subst e; omega
    · exact h.up b hb
  · rw [hg]; split
    · next e => subst e; have := h.lo b hb; omega
    · exact h.lo b hb
  · have := h.part b hb
    rw [hg]
    by_cases e : b = j
    · subst e
      rw [if_neg (by omega)] at this
      rw [if_pos (by omega), if_pos rfl, gM_yes hf]
      show max _ (wK f d r t a + d a) ≤ _
      omega
    · rw [if_neg e]
      by_cases hl : b < j
      · rw [if_pos hl] at this; rw [if_pos (by omega)]; exact this
      · rw [if_neg hl] at this; rw [if_neg (by omega)]; exact this
theorem WaJ.row {f : Nat → Nat → Bool} {d : Nat → Nat} {r t a : Nat} {S : List Nat} (h : WaJ f d r t a r S) : WaJ f d r t (a + 1) 0 S :=
  ⟨h.len, h.up, h.lo, fun b hb => by have := h.part b hb; rw [if_pos hb] at this; rw [if_neg (by omega)]; exact this⟩
theorem WaJ.round {f : Nat → Nat → Bool} {d : Nat → Nat} {r t : Nat} {S : List Nat} (h : WaJ f d r t r 0 S) : WaJ f d r (t + 1) 0 0 S :=
  ⟨h.len, h.up, fun b hb => by have := h.part b hb; rw [if_neg (by omega)] at this; exact this, fun b hb => by rw [if_neg (by omega)]; exact Nat.zero_le _⟩
theorem WaJ.done {f : Nat → Nat → Bool} {d : Nat → Nat} {r : Nat} {S : List Nat} (h : WaJ f d r r 0 0 S) : S = sumL f d r := by
  refine list_getD_ext (by rw [h.len, sumL_len]) fun b hb => ?_
  rw [h.len] at hb
  rw [sumL_at hb]
  have h1 := h.up b hb
  have h2 := h.lo b hb
  unfold sumS at h1 ⊢
  omega

/-! # going along a line -/
/-- the rooms in a line -/
structure Srt (q : Nat → Nat → Bool) (r : Nat) (ln : List Nat) : Prop where
  len : ln.length = r
  lt : ∀ i, i < r → ln.getD i 0 < r
  ord : ∀ i j, i < j → j < r → q (ln.getD i 0) (ln.getD j 0) = true
  all : ∀ x, x < r → ∃ i, i < r ∧ ln.getD i 0 = x
theorem Srt.inj {q : Nat → Nat → Bool} {r : Nat} {ln : List Nat} (L : Lin q r) (h : Srt q r ln) {i j : Nat} (hi : i < r) (hj : j < r) (e : ln.getD i 0 = ln.getD j 0) : i = j := by
  rcases Nat.lt_trichotomy i j with h1 | h1 | h1
  · have := h.ord i j h1 hj; rw [e, L.irr _ (h.lt j hj)] at this; cases this
  · exact h1
  · have := h.ord j i h1 hi; rw [e, L.irr _ (h.lt j hj)] at this; cases this
theorem Srt.ahead {f q : Nat → Nat → Bool} {r : Nat} {ln : List Nat} (G : Goes f q r) (h : Srt q r ln) {k j : Nat} (hk : k < r) (hj : j < r) (hf : f (ln.getD j 0) (ln.getD k 0) = true) : j < k := by
  have hq := (G.imp _ _ hf).2.2
  rcases Nat.lt_trichotomy j k with h1 | h1 | h1
  · exact h1
  · subst h1; rw [G.lin.irr _ (h.lt j hj)] at hq; cases hq
  · have := h.ord k j h1 hj
    have := G.lin.trans _ _ _ (h.lt k hk) (h.lt j hj) (h.lt k hk) this hq
    rw [G.lin.irr _ (h.lt k hk)] at this; cases this
/-- of the rooms ahead in the line -/
def gL (f : Nat → Nat → Bool) (v : Nat → Nat) (ln : List Nat) (b i : Nat) : Nat := gM (fun j b => f (ln.getD j 0) b) (fun j => v (ln.getD j 0)) b i
theorem gL_all {f q : Nat → Nat → Bool} {r : Nat} {d : Nat → Nat} {ln : List Nat} (G : Goes f q r) (h : Srt q r ln) {k : Nat} (hk : k < r) : gL f (fun a => sumS f d r a + d a) ln (ln.getD k 0) k = sumS f d r (ln.getD k 0) := by
  apply Nat.le_antisymm
  · unfold gL; rw [gM_le]; exact fun a _ hf => G.sum_up hf
  · rcases G.sum_some (d := d) (h.lt k hk) with e | ⟨a, ha, hf, e⟩
    · rw [e]; exact Nat.zero_le _
    · obtain ⟨j, hj, rfl⟩ := h.all a ha
      rw [e]
      unfold gL
      exact (gM_le (f := fun j b => f (ln.getD j 0) b) (v := fun j => sumS f d r (ln.getD j 0) + d (ln.getD j 0)) k).1 (Nat.le_refl _) j (h.ahead G hk hj hf) hf
theorem gL_no {f : Nat → Nat → Bool} {v : Nat → Nat} {ln : List Nat} {b i : Nat} (h : f (ln.getD i 0) b = false) : gL f v ln b (i + 1) = gL f v ln b i := gM_no (f := fun j b => f (ln.getD j 0) b) h
theorem gL_yes {f : Nat → Nat → Bool} {v : Nat → Nat} {ln : List Nat} {b i : Nat} (h : f (ln.getD i 0) b = true) : gL f v ln b (i + 1) = max (gL f v ln b i) (v (ln.getD i 0)) := gM_yes (f := fun j b => f (ln.getD j 0) b) (v := fun j => v (ln.getD j 0)) h
theorem zeros_at (r b : Nat) : (List.replicate r 0).getD b 0 = 0 := by
  rw [List.getD_eq_getElem?_getD, List.getElem?_replicate]
  split <;> rfl
structure AhS (f : Nat → Nat → Bool) (d : Nat → Nat) (r : Nat) (ln : List Nat) (k i : Nat) (S : List Nat) : Prop where
  len : S.length = r
  did : ∀ j, j < k → S.getD (ln.getD j 0) 0 = sumS f d r (ln.getD j 0)
  now : k < r → S.getD (ln.getD k 0) 0 = gL f (fun a => sumS f d r a + d a) ln (ln.getD k 0) i
  rest : ∀ j, k < j → j < r → S.getD (ln.getD j 0) 0 = 0
theorem AhS.start {f : Nat → Nat → Bool} {d : Nat → Nat} {q : Nat → Nat → Bool} {r : Nat} {ln : List Nat} (_h : Srt q r ln) : AhS f d r ln 0 0 (List.replicate r 0) :=
  ⟨by simp, fun j hj => by omega, fun _ => by rw [zeros_at]; rfl, fun j _ _ => zeros_at _ _⟩
theorem AhS.skip {f : Nat → Nat → Bool} {d : Nat → Nat} {r : Nat} {ln : List Nat} {k i : Nat} {S : List Nat} (h : AhS f d r ln k i S) (hf : f (ln.getD i 0) (ln.getD k 0) = false) : AhS f d r ln k (i + 1) S :=
  ⟨h.len, h.did, fun hk => by rw [h.now hk, gL_no hf], h.rest⟩
theorem AhS.step {f q : Nat → Nat → Bool} {d : Nat → Nat} {r : Nat} {ln : List Nat} {k i : Nat} {S : List Nat} (L : Lin q r) (s : Srt q r ln) (h : AhS f d r ln k i S) (hk : k < r) (hi : i < k) (hf : f (ln.getD i 0) (ln.getD k 0) = true) :
    AhS f d r ln k (i + 1) (S.set (ln.getD k 0) (max (S.getD (ln.getD k 0) 0) (S.getD (ln.getD i 0) 0 + d (ln.getD i 0)))) := by
  have hg : ∀ b, (S.set (ln.getD k 0) (max (S.getD (ln.getD k 0) 0) (S.getD (ln.getD i 0) 0 + d (ln.getD i 0)))).getD b 0 = if b = ln.getD k 0 then max (S.getD (ln.getD k 0) 0) (S.getD (ln.getD i 0) 0 + d (ln.getD i 0)) else S.getD b 0 := fun b => getD_set S _ b _ (by rw [h.len]; exact s.lt k hk)
  refine ⟨by rw [List.length_set]; exact h.len, fun j hj => ?_, fun _ => ?_, fun j hj hjr => ?_⟩
  · rw [hg, if_neg (fun e => by have := s.inj L (by omega) hk e; omega)]; exact h.did j hj
  · rw [hg, if_pos rfl, h.now hk, h.did i hi, gL_yes hf]
  · rw [hg, if_neg (fun e => by have := s.inj L hjr hk e; omega)]; exact h.rest j hj hjr
theorem AhS.next {f q : Nat → Nat → Bool} {d : Nat → Nat} {r : Nat} {ln : List Nat} {k : Nat} {S : List Nat} (G : Goes f q r) (s : Srt q r ln) (h : AhS f d r ln k k S) (hk : k < r) : AhS f d r ln (k + 1) 0 S := by
  refine ⟨h.len, fun j hj => ?_, fun hk2 => ?_, fun j hj hjr => h.rest j (by omega) hjr⟩
  · by_cases e : j = k
    · subst e; rw [h.now hk, gL_all G s hk]
    · exact h.did j (by omega)
  · rw [h.rest (k + 1) (by omega) hk2]; rfl
theorem AhS.done {f q : Nat → Nat → Bool} {d : Nat → Nat} {r : Nat} {ln : List Nat} {S : List Nat} (s : Srt q r ln) (h : AhS f d r ln r 0 S) : S = sumL f d r := by
  refine list_getD_ext (by rw [h.len, sumL_len]) fun b hb => ?_
  rw [h.len] at hb
  rw [sumL_at hb]
  obtain ⟨j, hj, rfl⟩ := s.all b hb
  exact h.did j hj
theorem AhS.few {f q : Nat → Nat → Bool} {d : Nat → Nat} {r : Nat} {ln : List Nat} {k i : Nat} {S : List Nat} (G : Goes f q r) (s : Srt q r ln) (h : AhS f d r ln k i S) (hk : k < r) (hik : i ≤ k) : ∀ b, b < r → S.getD b 0 ≤ sumS f d r b := by
  intro b hb
  obtain ⟨j, hj, rfl⟩ := s.all b hb
  rcases Nat.lt_trichotomy j k with h1 | h1 | h1
  · rw [h.did j h1]; exact Nat.le_refl _
  · subst h1
    rw [h.now hk]
    unfold gL; rw [gM_le]; exact fun a _ hf => G.sum_up hf
  · rw [h.rest j h1 hj]; exact Nat.zero_le _

end Go.Proofs.Ytmbpffpkmjechaa
