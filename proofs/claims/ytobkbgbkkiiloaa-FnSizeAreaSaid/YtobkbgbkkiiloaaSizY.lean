
/-
  Merged texts: SizW SizY.
-/
import Derived.Test.YtobkbgbkkiiloaaLon
import Derived.Test.YtobkbgbkkiiloaaLong
import Derived.Test.YtobkbgbkkiiloaaOrdAB
import Derived.Deep.MidRow
import Derived.Lib.QuietBelow
import Derived.OrdersHeld
import Derived.BigRegion
import Derived.Maps.AppendAt
import Derived.Lib.SliceRun
import Derived.Lib.BufferMore
import Derived.Deep.AppendLies
import Derived.Deep.RegionHeld3

/-
  Merged texts: SizX SizV.
-/
/-
  Merged texts: SizM InsM SizN SizO SizQ SizA SizB.
-/
/-
  Greatest sums of needs of rooms each of which leads to the next one. (Plain mathematics: no function is named.)
-/
namespace Go.Proofs.Ytobkbgbkkiiloaa

/-- the greatest of what comes of those that lead to a room, of the first ones -/
def gM (f : Nat → Nat → Bool) (v : Nat → Nat) (b : Nat) : Nat → Nat
  | 0 => 0
  | i + 1 => if f i b = true then max (gM f v b i) (v i) else gM f v b i
theorem gM_yes {f : Nat → Nat → Bool} {v : Nat → Nat} {b i : Nat} (h : f i b = true) : gM f v b (i + 1) = max (gM f v b i) (v i) := by
  show (if f i b = true then _ else _) = _
  rw [if_pos h]
theorem gM_no {f : Nat → Nat → Bool} {v : Nat → Nat} {b i : Nat} (h : f i b = false) : gM f v b (i + 1) = gM f v b i := by
  show (if f i b = true then _ else _) = _
  rw [h]; rfl
theorem gM_le {f : Nat → Nat → Bool} {v : Nat → Nat} {b m : Nat} : ∀ i, gM f v b i ≤ m ↔ ∀ a, a < i → f a b = true → v a ≤ m
  | 0 => ⟨fun _ a ha => by omega, fun _ => Nat.zero_le _⟩
  | i + 1 => by
    have ih := gM_le (f := f) (v := v) (b := b) (m := m) i
    cases h : f i b
    · rw [gM_no h, ih]
      constructor
      · intro k a ha hf
        by_cases e : a = i
        · rw [e, h] at hf; cases hf
        · exact k a (by omega) hf
      · exact fun k a ha hf => k a (by omega) hf
    · rw [gM_yes h, Nat.max_le, ih]
      constructor
      · rintro ⟨k, k2⟩ a ha hf
        by_cases e : a = i
        · rw [e]; exact k2
        · exact k a (by omega) hf
      · exact fun k => ⟨fun a ha hf => k a (by omega) hf, k i (by omega) h⟩
theorem gM_congr {f : Nat → Nat → Bool} {v v' : Nat → Nat} {b : Nat} {i : Nat} (h : ∀ a, a < i → f a b = true → v a = v' a) : gM f v b i = gM f v' b i := by
  apply Nat.le_antisymm
  · rw [gM_le]; intro a ha hf; rw [h a ha hf]; exact (gM_le i).1 (Nat.le_refl _) a ha hf
  · rw [gM_le]; intro a ha hf; rw [← h a ha hf]; exact (gM_le i).1 (Nat.le_refl _) a ha hf
theorem gM_some {f : Nat → Nat → Bool} {v : Nat → Nat} {b : Nat} : ∀ i, gM f v b i = 0 ∨ ∃ a, a < i ∧ f a b = true ∧ gM f v b i = v a
  | 0 => .inl rfl
  | i + 1 => by
    cases h : f i b
    · rw [gM_no h]
      rcases gM_some (f := f) (v := v) (b := b) i with k | ⟨a, h1, h2, h3⟩
      · exact .inl k
      · exact .inr ⟨a, by omega, h2, h3⟩
    · rw [gM_yes h]
      by_cases hm : gM f v b i ≤ v i
      · exact .inr ⟨i, by omega, h, by omega⟩
      · rcases gM_some (f := f) (v := v) (b := b) i with k | ⟨a, h1, h2, h3⟩
        · omega
        · exact .inr ⟨a, by omega, h2, by omega⟩
/-- greatest sums of at most k -/
def wK (f : Nat → Nat → Bool) (d : Nat → Nat) (r : Nat) : Nat → Nat → Nat
  | 0, _ => 0
  | k + 1, b => gM f (fun a => wK f d r k a + d a) b r
theorem wK_succ (f : Nat → Nat → Bool) (d : Nat → Nat) (r k b : Nat) : wK f d r (k + 1) b = gM f (fun a => wK f d r k a + d a) b r := rfl
theorem Goes.rank {f q : Nat → Nat → Bool} {r a b : Nat} (G : Goes f q r) (h : f a b = true) : placeN q r a < placeN q r b := G.lin.mono (G.imp _ _ h).1 (G.imp _ _ h).2.1 (G.imp _ _ h).2.2
theorem Goes.wK_same {f q : Nat → Nat → Bool} {r : Nat} {d : Nat → Nat} (G : Goes f q r) : ∀ n k k' b, b < r → placeN q r b ≤ n → n ≤ k → n ≤ k' → wK f d r k b = wK f d r k' b
  | 0, k, k', b, hb, hp, _, _ => by
    have z : ∀ k, wK f d r k b = 0 := fun k => by
      cases k with
      | zero => rfl
      | succ k =>
        rw [wK_succ]
        exact Nat.le_zero.1 ((gM_le r).2 fun a ha hf => by have := G.rank hf; omega)
    rw [z, z]
  | n + 1, k, k', b, hb, hp, hk, hk' => by
    obtain ⟨j, rfl⟩ : ∃ j, k = j + 1 := ⟨k - 1, by omega⟩
    obtain ⟨j', rfl⟩ : ∃ j, k' = j + 1 := ⟨k' - 1, by omega⟩
    rw [wK_succ, wK_succ]
    refine gM_congr fun a ha hf => ?_
    have := G.rank hf
    rw [G.wK_same n j j' a ha (by omega) (by omega) (by omega)]
/-- the greatest sum ahead of a room -/
def sumS (f : Nat → Nat → Bool) (d : Nat → Nat) (r b : Nat) : Nat := wK f d r r b
theorem Goes.sum_fix {f q : Nat → Nat → Bool} {r b : Nat} {d : Nat → Nat} (G : Goes f q r) (hb : b < r) : gM f (fun a => sumS f d r a + d a) b r = sumS f d r b :=
  (G.wK_same (d := d) r (r + 1) r b hb (Nat.le_of_lt (G.lin.lt hb)) (by omega) (Nat.le_refl _))
theorem Goes.sum_up {f q : Nat → Nat → Bool} {r a b : Nat} {d : Nat → Nat} (G : Goes f q r) (hf : f a b = true) : sumS f d r a + d a ≤ sumS f d r b := by
  rw [← G.sum_fix (G.imp _ _ hf).2.1]
  exact (gM_le (v := fun a => sumS f d r a + d a) r).1 (Nat.le_refl _) a (G.imp _ _ hf).1 hf
theorem Goes.sum_some {f q : Nat → Nat → Bool} {r b : Nat} {d : Nat → Nat} (G : Goes f q r) (hb : b < r) : sumS f d r b = 0 ∨ ∃ a, a < r ∧ f a b = true ∧ sumS f d r b = sumS f d r a + d a := by
  have h := gM_some (f := f) (v := fun a => sumS f d r a + d a) (b := b) r
  rw [G.sum_fix hb] at h
  exact h
theorem Goes.wK_few {f q : Nat → Nat → Bool} {r : Nat} {d : Nat → Nat} (G : Goes f q r) (hd : ∀ a, a < r → d a ≤ 9) : ∀ k b, b < r → wK f d r k b ≤ 9 * placeN q r b
  | 0, _, _ => Nat.zero_le _
  | k + 1, b, hb => by
    rw [wK_succ, gM_le]
    intro a ha hf
    have h1 := G.wK_few hd k a ha
    have h2 := G.rank hf
    have h3 := hd a ha
    show wK f d r k a + d a ≤ _
    omega
theorem Goes.sum_few {f q : Nat → Nat → Bool} {r b : Nat} {d : Nat → Nat} (G : Goes f q r) (hd : ∀ a, a < r → d a ≤ 9) (hb : b < r) (hr : r ≤ 9) : sumS f d r b ≤ 72 := by
  have h1 := G.wK_few hd r b hb
  have h2 := G.lin.lt hb
  unfold sumS
  omega
theorem Goes.wK_le {f q : Nat → Nat → Bool} {r : Nat} {d : Nat → Nat} (G : Goes f q r) : ∀ k b, b < r → wK f d r k b ≤ sumS f d r b
  | 0, _, _ => Nat.zero_le _
  | k + 1, b, hb => by
    rw [wK_succ, gM_le]
    intro a ha hf
    exact Nat.le_trans (Nat.add_le_add_right (G.wK_le k a ha) _) (G.sum_up hf)

/-- the greatest of the first ones -/
def eM (v : Nat → Nat) : Nat → Nat
  | 0 => 0
  | i + 1 => max (eM v i) (v i)
theorem eM_le {v : Nat → Nat} {m : Nat} : ∀ i, eM v i ≤ m ↔ ∀ a, a < i → v a ≤ m
  | 0 => ⟨fun _ a ha => by omega, fun _ => Nat.zero_le _⟩
  | i + 1 => by
    unfold eM
    rw [Nat.max_le, eM_le i]
    constructor
    · rintro ⟨k, k2⟩ a ha
      by_cases e : a = i
      · rw [e]; exact k2
      · exact k a (by omega)
    · exact fun k => ⟨fun a ha => k a (by omega), k i (by omega)⟩
/-- the least width: the greatest end -/
def endS (f : Nat → Nat → Bool) (d : Nat → Nat) (r : Nat) : Nat := eM (fun a => sumS f d r a + d a) r
def sumL (f : Nat → Nat → Bool) (d : Nat → Nat) (r : Nat) : List Nat := (List.range r).map (sumS f d r)
theorem sumL_len (f : Nat → Nat → Bool) (d : Nat → Nat) (r : Nat) : (sumL f d r).length = r := by simp [sumL]
theorem sumL_at {f : Nat → Nat → Bool} {d : Nat → Nat} {r b : Nat} (hb : b < r) : (sumL f d r).getD b 0 = sumS f d r b := by simp [sumL, hb]

/-! # going on from room to room, as often as there are rooms -/
structure WaJ (f : Nat → Nat → Bool) (d : Nat → Nat) (r t a j : Nat) (S : List Nat) : Prop where
  len : S.length = r
  up : ∀ b, b < r → S.getD b 0 ≤ sumS f d r b
  lo : ∀ b, b < r → wK f d r t b ≤ S.getD b 0
  part : ∀ b, b < r → gM f (fun a => wK f d r t a + d a) b (if b < j then a + 1 else a) ≤ S.getD b 0
theorem WaJ.start (f : Nat → Nat → Bool) (d : Nat → Nat) (r : Nat) : WaJ f d r 0 0 0 (List.replicate r 0) :=
  ⟨by simp, fun b hb => by simp [hb], fun b hb => Nat.zero_le _, fun b hb => by rw [if_neg (by omega)]; exact Nat.zero_le _⟩
theorem WaJ.skip {f : Nat → Nat → Bool} {d : Nat → Nat} {r t a j : Nat} {S : List Nat} (h : WaJ f d r t a j S) (hf : f a j = false) : WaJ f d r t a (j + 1) S := by
  refine ⟨h.len, h.up, h.lo, fun b hb => ?_⟩
  have := h.part b hb
  by_cases e : b = j
  · subst e
    rw [if_neg (by omega)] at this
    rw [if_pos (by omega), gM_no hf]; exact this
  · by_cases hl : b < j
    · rw [if_pos hl] at this; rw [if_pos (by omega)]; exact this
    · rw [if_neg hl] at this; rw [if_neg (by omega)]; exact this
theorem WaJ.step {f q : Nat → Nat → Bool} {d : Nat → Nat} {r t a j : Nat} {S : List Nat} (G : Goes f q r) (h : WaJ f d r t a j S) (hf : f a j = true) : WaJ f d r t a (j + 1) (S.set j (max (S.getD j 0) (S.getD a 0 + d a))) := by
  obtain ⟨ha, hj, _⟩ := G.imp _ _ hf
  have hs := G.sum_up (d := d) hf
  have hua := h.up a ha
  have huj := h.up j hj
  have hla := h.lo a ha
  have hg : ∀ b, (S.set j (max (S.getD j 0) (S.getD a 0 + d a))).getD b 0 = if b = j then max (S.getD j 0) (S.getD a 0 + d a) else S.getD b 0 := fun b => getD_set S j b _ (by rw [h.len]; exact hj)
  refine ⟨by rw [List.length_set]; exact h.len, fun b hb => ?_, fun b hb => ?_, fun b hb => ?_⟩
  · rw [hg]; split
    · next e => subst e; omega
    · exact h.up b hb
  · rw [hg]; split
    · next e => subst e; have := h.lo b hb; omega
    · exact h.lo b hb
  · have := h.part b hb
    rw [hg]
    by_cases e : b = j
    · subst e
      rw [if_neg (by omega)] at this
      rw [if_pos (by omega), if_pos rfl, gM_yes hf]
      show max _ (wK f d r t a + d a) ≤ _
      omega
    · rw [if_neg e]
      by_cases hl : b < j
      · rw [if_pos hl] at this; rw [if_pos (by omega)]; exact this
      · rw [if_neg hl] at this; rw [if_neg (by omega)]; exact this
theorem WaJ.row {f : Nat → Nat → Bool} {d : Nat → Nat} {r t a : Nat} {S : List Nat} (h : WaJ f d r t a r S) : WaJ f d r t (a + 1) 0 S :=
  ⟨h.len, h.up, h.lo, fun b hb => by have := h.part b hb; rw [if_pos hb] at this; rw [if_neg (by omega)]; exact this⟩
theorem WaJ.round {f : Nat → Nat → Bool} {d : Nat → Nat} {r t : Nat} {S : List Nat} (h : WaJ f d r t r 0 S) : WaJ f d r (t + 1) 0 0 S :=
  ⟨h.len, h.up, fun b hb => by have := h.part b hb; rw [if_neg (by omega)] at this; exact this, fun b hb => by rw [if_neg (by omega)]; exact Nat.zero_le _⟩
theorem WaJ.done {f : Nat → Nat → Bool} {d : Nat → Nat} {r : Nat} {S : List Nat} (h : WaJ f d r r 0 0 S) : S = sumL f d r := by
  refine list_getD_ext (by rw [h.len, sumL_len]) fun b hb => ?_
  rw [h.len] at hb
  rw [sumL_at hb]
  have h1 := h.up b hb
  have h2 := h.lo b hb
  unfold sumS at h1 ⊢
  omega

/-! # going along a line -/
/-- the rooms in a line -/
structure Srt (q : Nat → Nat → Bool) (r : Nat) (ln : List Nat) : Prop where
  len : ln.length = r
  lt : ∀ i, i < r → ln.getD i 0 < r
  ord : ∀ i j, i < j → j < r → q (ln.getD i 0) (ln.getD j 0) = true
  all : ∀ x, x < r → ∃ i, i < r ∧ ln.getD i 0 = x
theorem Srt.inj {q : Nat → Nat → Bool} {r : Nat} {ln : List Nat} (L : Lin q r) (h : Srt q r ln) {i j : Nat} (hi : i < r) (hj : j < r) (e : ln.getD i 0 = ln.getD j 0) : i = j := by
  rcases Nat.lt_trichotomy i j with h1 | h1 | h1
  · have := h.ord i j h1 hj; rw [e, L.irr _ (h.lt j hj)] at this; cases this
  · exact h1
  · have := h.ord j i h1 hi; rw [e, L.irr _ (h.lt j hj)] at this; cases this
theorem Srt.ahead {f q : Nat → Nat → Bool} {r : Nat} {ln : List Nat} (G : Goes f q r) (h : Srt q r ln) {k j : Nat} (hk : k < r) (hj : j < r) (hf : f (ln.getD j 0) (ln.getD k 0) = true) : j < k := by
  have hq := (G.imp _ _ hf).2.2
  rcases Nat.lt_trichotomy j k with h1 | h1 | h1
  · exact h1
  · subst h1; rw [G.lin.irr _ (h.lt j hj)] at hq; cases hq
  · have := h.ord k j h1 hj
    have := G.lin.trans _ _ _ (h.lt k hk) (h.lt j hj) (h.lt k hk) this hq
    rw [G.lin.irr _ (h.lt k hk)] at this; cases this
/-- of the rooms ahead in the line -/
def gL (f : Nat → Nat → Bool) (v : Nat → Nat) (ln : List Nat) (b i : Nat) : Nat := gM (fun j b => f (ln.getD j 0) b) (fun j => v (ln.getD j 0)) b i
theorem gL_all {f q : Nat → Nat → Bool} {r : Nat} {d : Nat → Nat} {ln : List Nat} (G : Goes f q r) (h : Srt q r ln) {k : Nat} (hk : k < r) : gL f (fun a => sumS f d r a + d a) ln (ln.getD k 0) k = sumS f d r (ln.getD k 0) := by
  apply Nat.le_antisymm
  · unfold gL; rw [gM_le]; exact fun a _ hf => G.sum_up hf
  · rcases G.sum_some (d := d) (h.lt k hk) with e | ⟨a, ha, hf, e⟩
    · rw [e]; exact Nat.zero_le _
    · obtain ⟨j, hj, rfl⟩ := h.all a ha
      rw [e]
      unfold gL
      exact (gM_le (f := fun j b => f (ln.getD j 0) b) (v := fun j => sumS f d r (ln.getD j 0) + d (ln.getD j 0)) k).1 (Nat.le_refl _) j (h.ahead G hk hj hf) hf
theorem gL_no {f : Nat → Nat → Bool} {v : Nat → Nat} {ln : List Nat} {b i : Nat} (h : f (ln.getD i 0) b = false) : gL f v ln b (i + 1) = gL f v ln b i := gM_no (f := fun j b => f (ln.getD j 0) b) h
theorem gL_yes {f : Nat → Nat → Bool} {v : Nat → Nat} {ln : List Nat} {b i : Nat} (h : f (ln.getD i 0) b = true) : gL f v ln b (i + 1) = max (gL f v ln b i) (v (ln.getD i 0)) := gM_yes (f := fun j b => f (ln.getD j 0) b) (v := fun j => v (ln.getD j 0)) h
theorem zeros_at (r b : Nat) : (List.replicate r 0).getD b 0 = 0 := by
  rw [List.getD_eq_getElem?_getD, List.getElem?_replicate]
  split <;> rfl
structure AhS (f : Nat → Nat → Bool) (d : Nat → Nat) (r : Nat) (ln : List Nat) (k i : Nat) (S : List Nat) : Prop where
  len : S.length = r
  did : ∀ j, j < k → S.getD (ln.getD j 0) 0 = sumS f d r (ln.getD j 0)
  now : k < r → S.getD (ln.getD k 0) 0 = gL f (fun a => sumS f d r a + d a) ln (ln.getD k 0) i
  rest : ∀ j, k < j → j < r → S.getD (ln.getD j 0) 0 = 0
theorem AhS.start {f : Nat → Nat → Bool} {d : Nat → Nat} {q : Nat → Nat → Bool} {r : Nat} {ln : List Nat} (_h : Srt q r ln) : AhS f d r ln 0 0 (List.replicate r 0) :=
  ⟨by simp, fun j hj => by omega, fun _ => by rw [zeros_at]; rfl, fun j _ _ => zeros_at _ _⟩
theorem AhS.skip {f : Nat → Nat → Bool} {d : Nat → Nat} {r : Nat} {ln : List Nat} {k i : Nat} {S : List Nat} (h : AhS f d r ln k i S) (hf : f (ln.getD i 0) (ln.getD k 0) = false) : AhS f d r ln k (i + 1) S :=
  ⟨h.len, h.did, fun hk => by rw [h.now hk, gL_no hf], h.rest⟩
theorem AhS.step {f q : Nat → Nat → Bool} {d : Nat → Nat} {r : Nat} {ln : List Nat} {k i : Nat} {S : List Nat} (L : Lin q r) (s : Srt q r ln) (h : AhS f d r ln k i S) (hk : k < r) (hi : i < k) (hf : f (ln.getD i 0) (ln.getD k 0) = true) :
    AhS f d r ln k (i + 1) (S.set (ln.getD k 0) (max (S.getD (ln.getD k 0) 0) (S.getD (ln.getD i 0) 0 + d (ln.getD i 0)))) := by
  have hg : ∀ b, (S.set (ln.getD k 0) (max (S.getD (ln.getD k 0) 0) (S.getD (ln.getD i 0) 0 + d (ln.getD i 0)))).getD b 0 = if b = ln.getD k 0 then max (S.getD (ln.getD k 0) 0) (S.getD (ln.getD i 0) 0 + d (ln.getD i 0)) else S.getD b 0 := fun b => getD_set S _ b _ (by rw [h.len]; exact s.lt k hk)
  refine ⟨by rw [List.length_set]; exact h.len, fun j hj => ?_, fun _ => ?_, fun j hj hjr => ?_⟩
  · rw [hg, if_neg (fun e => by have := s.inj L (by omega) hk e; omega)]; exact h.did j hj
  · rw [hg, if_pos rfl, h.now hk, h.did i hi, gL_yes hf]
  · rw [hg, if_neg (fun e => by have := s.inj L hjr hk e; omega)]; exact h.rest j hj hjr
theorem AhS.next {f q : Nat → Nat → Bool} {d : Nat → Nat} {r : Nat} {ln : List Nat} {k : Nat} {S : List Nat} (G : Goes f q r) (s : Srt q r ln) (h : AhS f d r ln k k S) (hk : k < r) : AhS f d r ln (k + 1) 0 S := by
  refine ⟨h.len, fun j hj => ?_, fun hk2 => ?_, fun j hj hjr => h.rest j (by omega) hjr⟩
  · by_cases e : j = k
    · subst e; rw [h.now hk, gL_all G s hk]
    · exact h.did j (by omega)
  · rw [h.rest (k + 1) (by omega) hk2]; rfl
theorem AhS.done {f q : Nat → Nat → Bool} {d : Nat → Nat} {r : Nat} {ln : List Nat} {S : List Nat} (s : Srt q r ln) (h : AhS f d r ln r 0 S) : S = sumL f d r := by
  refine list_getD_ext (by rw [h.len, sumL_len]) fun b hb => ?_
  rw [h.len] at hb
  rw [sumL_at hb]
  obtain ⟨j, hj, rfl⟩ := s.all b hb
  exact h.did j hj
theorem AhS.few {f q : Nat → Nat → Bool} {d : Nat → Nat} {r : Nat} {ln : List Nat} {k i : Nat} {S : List Nat} (G : Goes f q r) (s : Srt q r ln) (h : AhS f d r ln k i S) (hk : k < r) (hik : i ≤ k) : ∀ b, b < r → S.getD b 0 ≤ sumS f d r b := by
  intro b hb
  obtain ⟨j, hj, rfl⟩ := s.all b hb
  rcases Nat.lt_trichotomy j k with h1 | h1 | h1
  · rw [h.did j h1]; exact Nat.le_refl _
  · subst h1
    rw [h.now hk]
    unfold gL; rw [gM_le]; exact fun a _ hf => G.sum_up hf
  · rw [h.rest j h1 hj]; exact Nat.zero_le _

end Go.Proofs.Ytobkbgbkkiiloaa

/-
  Putting rooms in order one by one. (Plain mathematics: no function is named.)
-/
namespace Go.Proofs.Ytobkbgbkkiiloaa

def swapL (L : List Nat) (j : Nat) : List Nat := (L.set j (L.getD (j - 1) 0)).set (j - 1) (L.getD j 0)
theorem swapL_len (L : List Nat) (j : Nat) : (swapL L j).length = L.length := by simp [swapL]
theorem swapL_at {L : List Nat} {j : Nat} (h1 : 1 ≤ j) (hj : j < L.length) (x : Nat) : (swapL L j).getD x 0 = if x = j - 1 then L.getD j 0 else if x = j then L.getD (j - 1) 0 else L.getD x 0 := by
  unfold swapL
  rw [getD_set _ _ _ _ (by rw [List.length_set]; omega), getD_set _ _ _ _ hj]
structure Ins (q : Nat → Nat → Bool) (r i : Nat) (L : List Nat) : Prop where
  len : L.length = r
  lt : ∀ x, x < r → L.getD x 0 < r
  inj : ∀ x y, x < r → y < r → L.getD x 0 = L.getD y 0 → x = y
  ord : ∀ x y, x < y → y < i → q (L.getD x 0) (L.getD y 0) = true
structure InJ (q : Nat → Nat → Bool) (r i j : Nat) (L : List Nat) : Prop where
  len : L.length = r
  lt : ∀ x, x < r → L.getD x 0 < r
  inj : ∀ x y, x < r → y < r → L.getD x 0 = L.getD y 0 → x = y
  hi : i < r
  hj : j ≤ i
  ord : ∀ x y, x < y → y ≤ i → x ≠ j → y ≠ j → q (L.getD x 0) (L.getD y 0) = true
  fst : ∀ y, j < y → y ≤ i → q (L.getD j 0) (L.getD y 0) = true
theorem Ins.start (q : Nat → Nat → Bool) (r : Nat) : Ins q r 1 (List.range r) := by
  have hg : ∀ x, x < r → (List.range r).getD x 0 = x := fun x hx => by simp [hx]
  exact ⟨by simp, fun x hx => by rw [hg x hx]; exact hx, fun x y hx hy e => by rwa [hg x hx, hg y hy] at e, fun x y h1 h2 => by omega⟩
theorem Ins.inner {q : Nat → Nat → Bool} {r i : Nat} {L : List Nat} (h : Ins q r i L) (hi : i < r) : InJ q r i i L :=
  ⟨h.len, h.lt, h.inj, hi, Nat.le_refl _, fun x y h1 h2 _ h4 => h.ord x y h1 (by omega), fun y h1 h2 => by omega⟩
theorem InJ.swap {q : Nat → Nat → Bool} {r i j : Nat} {L : List Nat} (h : InJ q r i j L) (h1 : 1 ≤ j) (hq : q (L.getD j 0) (L.getD (j - 1) 0) = true) : InJ q r i (j - 1) (swapL L j) := by
  have hjr : j < L.length := by rw [h.len]; have := h.hi; have := h.hj; omega
  have hjr2 : j < r := by rw [← h.len]; exact hjr
  have hji := h.hj
  have hat := fun x => swapL_at h1 hjr x
  refine ⟨by rw [swapL_len]; exact h.len, fun x hx => ?_, fun x y hx hy e => ?_, h.hi, by omega, fun x y hxy hy hx1 hy1 => ?_, fun y hy1 hy => ?_⟩
  · rw [hat]; split
    · exact h.lt _ hjr2
    · split
      · exact h.lt _ (by omega)
      · exact h.lt x hx
  · rw [hat, hat] at e
    by_cases a1 : x = j - 1
    · by_cases a2 : y = j - 1
      · omega
      · rw [if_pos a1, if_neg a2] at e
        by_cases a3 : y = j
        · rw [if_pos a3] at e; have := h.inj _ _ hjr2 (by omega) e; omega
        · rw [if_neg a3] at e; have := h.inj _ _ hjr2 hy e; omega
    · rw [if_neg a1] at e
      by_cases a2 : y = j - 1
      · rw [if_pos a2] at e
        by_cases a3 : x = j
        · rw [if_pos a3] at e; have := h.inj _ _ (by omega) hjr2 e; omega
        · rw [if_neg a3] at e; have := h.inj _ _ hx hjr2 e; omega
      · rw [if_neg a2] at e
        by_cases a3 : x = j
        · rw [if_pos a3] at e
          by_cases a4 : y = j
          · omega
          · rw [if_neg a4] at e; have := h.inj _ _ (by omega) hy e; omega
        · rw [if_neg a3] at e
          by_cases a4 : y = j
          · rw [if_pos a4] at e; have := h.inj _ _ hx (by omega) e; omega
          · rw [if_neg a4] at e; exact h.inj _ _ hx hy e
  · rw [hat, hat, if_neg hx1, if_neg hy1]
    by_cases a3 : x = j
    · rw [if_pos a3, if_neg (by omega)]
      exact h.ord (j - 1) y (by omega) hy (by omega) (by omega)
    · rw [if_neg a3]
      by_cases a4 : y = j
      · rw [if_pos a4]; exact h.ord x (j - 1) (by omega) (by omega) a3 (by omega)
      · rw [if_neg a4]; exact h.ord x y hxy hy a3 a4
  · rw [hat, hat, if_pos rfl, if_neg (by omega)]
    by_cases a4 : y = j
    · rw [if_pos a4]; exact hq
    · rw [if_neg a4]; exact h.fst y (by omega) hy
theorem InJ.stop0 {q : Nat → Nat → Bool} {r i : Nat} {L : List Nat} (h : InJ q r i 0 L) : Ins q r (i + 1) L :=
  ⟨h.len, h.lt, h.inj, fun x y hxy hy => by
    by_cases e : x = 0
    · subst e; exact h.fst y hxy (by omega)
    · exact h.ord x y hxy (by omega) e (by omega)⟩
theorem InJ.stop {q : Nat → Nat → Bool} {r i j : Nat} {L : List Nat} (G : Lin q r) (h : InJ q r i j L) (h1 : 1 ≤ j) (hq : q (L.getD j 0) (L.getD (j - 1) 0) = false) : Ins q r (i + 1) L := by
  have hi := h.hi
  have hj := h.hj
  have hb : q (L.getD (j - 1) 0) (L.getD j 0) = true := by
    rcases G.all _ _ (h.lt (j - 1) (by omega)) (h.lt j (by omega)) (fun e => by have := h.inj _ _ (by omega) (by omega) e; omega) with k | k
    · exact k
    · rw [hq] at k; cases k
  refine ⟨h.len, h.lt, h.inj, fun x y hxy hy => ?_⟩
  by_cases a1 : x = j
  · subst a1; exact h.fst y hxy (by omega)
  · by_cases a2 : y = j
    · subst a2
      by_cases a3 : x = y - 1
      · subst a3; exact hb
      · exact G.trans _ _ _ (h.lt x (by omega)) (h.lt _ (by omega)) (h.lt _ (by omega)) (h.ord x (y - 1) (by omega) (by omega) a1 (by omega)) hb
    · exact h.ord x y hxy (by omega) a1 a2
theorem Ins.done {q : Nat → Nat → Bool} {r i : Nat} {L : List Nat} (G : Lin q r) (hir : r ≤ i) (h : Ins q r i L) : Srt q r L := by
  have ord : ∀ x y, x < y → y < r → q (L.getD x 0) (L.getD y 0) = true := fun x y h1 h2 => h.ord x y h1 (by omega)
  have lo : ∀ x, x < r → x ≤ placeN q r (L.getD x 0) := by
    intro x
    induction x with
    | zero => intro _; exact Nat.zero_le _
    | succ x ih =>
      intro hx
      have h1 := ih (by omega)
      have h2 := G.mono (h.lt x (by omega)) (h.lt (x + 1) hx) (ord x (x + 1) (by omega) hx)
      omega
  have hi2 : ∀ m x, x + m + 1 = r → placeN q r (L.getD x 0) ≤ x := by
    intro m
    induction m with
    | zero => intro x hx; have := G.lt (h.lt x (by omega)); omega
    | succ m ih =>
      intro x hx
      have h1 := ih (x + 1) (by omega)
      have h2 := G.mono (h.lt x (by omega)) (h.lt (x + 1) (by omega)) (ord x (x + 1) (by omega) (by omega))
      omega
  refine ⟨h.len, h.lt, ord, fun x hx => ⟨placeN q r x, G.lt hx, ?_⟩⟩
  have hp := G.lt hx
  have h1 := lo _ hp
  have h2 := hi2 (r - 1 - placeN q r x) (placeN q r x) (by omega)
  exact G.inj (h.lt _ hp) hx (Nat.le_antisymm h2 h1)

end Go.Proofs.Ytobkbgbkkiiloaa

/-
  Needs of rooms: what they are in memory, and how they are put in order. (Walks.)
-/
namespace Go.Proofs.Ytobkbgbkkiiloaa
open Go.RowKit

/-! # needs as cells -/
def ndL (d : Nat → Nat) (L : List Nat) : List Value := (List.range (2 * L.length)).map fun k => .int .i64 (((if k % 2 = 0 then L.getD (k / 2) 0 else d (L.getD (k / 2) 0)) : Nat) : Int)
def ndC (d : Nat → Nat) (L : List Nat) : Array Value := (ndL d L).toArray
def nd1 (d : Nat → Nat) (x : Nat) : Array Value := #[.int .i64 ((x : Nat) : Int), .int .i64 ((d x : Nat) : Int)]
theorem ndL_len (d : Nat → Nat) (L : List Nat) : (ndL d L).length = 2 * L.length := by simp [ndL]
theorem ndC_at {d : Nat → Nat} {L : List Nat} {k : Nat} (hk : k < 2 * L.length) : (ndC d L)[k]? = some (.int .i64 (((if k % 2 = 0 then L.getD (k / 2) 0 else d (L.getD (k / 2) 0)) : Nat) : Int)) := by
  unfold ndC ndL
  rw [List.getElem?_toArray, List.getElem?_map, List.getElem?_range hk]
  rfl
theorem ndC_lo {d : Nat → Nat} {L : List Nat} {i : Nat} (hi : i < L.length) : (ndC d L)[i * 2]? = some (.int .i64 ((L.getD i 0 : Nat) : Int)) := by
  rw [ndC_at (by omega), if_pos (by omega), show i * 2 / 2 = i by omega]
theorem ndC_hi {d : Nat → Nat} {L : List Nat} {i : Nat} (hi : i < L.length) : (ndC d L)[i * 2 + 1]? = some (.int .i64 ((d (L.getD i 0) : Nat) : Int)) := by
  rw [ndC_at (by omega), if_neg (by omega), show (i * 2 + 1) / 2 = i by omega]
theorem ndC_size (d : Nat → Nat) (L : List Nat) : (ndC d L).size = 2 * L.length := by unfold ndC; rw [List.size_toArray, ndL_len]
theorem ndC_put {d : Nat → Nat} {L : List Nat} {i : Nat} (hi : i < L.length) (x : Nat) : ((ndC d L).setIfInBounds (i * 2) (.int .i64 ((x : Nat) : Int))).setIfInBounds (i * 2 + 1) (.int .i64 ((d x : Nat) : Int)) = ndC d (L.set i x) := by
  apply Array.ext_getElem?
  intro k
  rw [Array.getElem?_setIfInBounds, Array.getElem?_setIfInBounds, Array.size_setIfInBounds, ndC_size]
  by_cases h2 : k < 2 * L.length
  · rw [ndC_at (L := L.set i x) (by rw [List.length_set]; exact h2), getD_set L i (k / 2) x hi]
    by_cases e1 : i * 2 + 1 = k
    · rw [if_pos e1, if_pos (by omega), if_neg (by omega), if_pos (by omega)]
    · rw [if_neg e1]
      by_cases e2 : i * 2 = k
      · rw [if_pos e2, if_pos (by omega), if_pos (by omega), if_pos (by omega)]
      · rw [if_neg e2, ndC_at h2, if_neg (show ¬ k / 2 = i by omega)]
  · rw [if_neg (by omega), if_neg (by omega), Array.getElem?_eq_none (by rw [ndC_size]; omega), Array.getElem?_eq_none (by rw [ndC_size, List.length_set]; omega)]
/-- needs ahead of what else a block holds -/
def ndX (d : Nat → Nat) (X : Array Value) (L : List Nat) : Array Value := ndC d L ++ X
theorem ndX_at {d : Nat → Nat} {X : Array Value} {L : List Nat} {k : Nat} (hk : k < 2 * L.length) : (ndX d X L)[k]? = (ndC d L)[k]? := by
  unfold ndX; rw [Array.getElem?_append_left (by rw [ndC_size]; exact hk)]
theorem ndX_lo {d : Nat → Nat} {X : Array Value} {L : List Nat} {i : Nat} (hi : i < L.length) : (ndX d X L)[i * 2]? = some (.int .i64 ((L.getD i 0 : Nat) : Int)) := by rw [ndX_at (by omega), ndC_lo hi]
theorem ndX_hi {d : Nat → Nat} {X : Array Value} {L : List Nat} {i : Nat} (hi : i < L.length) : (ndX d X L)[i * 2 + 1]? = some (.int .i64 ((d (L.getD i 0) : Nat) : Int)) := by rw [ndX_at (by omega), ndC_hi hi]
theorem app_set {A X : Array Value} {k : Nat} (hk : k < A.size) (u : Value) : (A ++ X).setIfInBounds k u = A.setIfInBounds k u ++ X := by
  apply Array.toList_inj.1
  rw [Array.toList_setIfInBounds, Array.toList_append, Array.toList_append, Array.toList_setIfInBounds, List.set_append_left _ _ (by rw [Array.length_toList]; exact hk)]
theorem ndX_put {d : Nat → Nat} {X : Array Value} {L : List Nat} {i : Nat} (hi : i < L.length) (x : Nat) : ((ndX d X L).setIfInBounds (i * 2) (.int .i64 ((x : Nat) : Int))).setIfInBounds (i * 2 + 1) (.int .i64 ((d x : Nat) : Int)) = ndX d X (L.set i x) := by
  unfold ndX
  rw [app_set (by rw [ndC_size]; omega), app_set (by rw [Array.size_setIfInBounds, ndC_size]; omega), ndC_put hi]
theorem nd_range {W : World} {g : Nat} {t : TypeId} {d : Nat → Nat} {X : Array Value} {L : List Nat} {i : Nat} (h : HeldB W g t (ndX d X L)) (hi : i < L.length) : W.rangeAt g (i * 2) (nd1 d (L.getD i 0)).toList := fun j v hv => by
  rcases j with _ | _ | j
  · rw [Nat.add_zero, h.cell, ndX_lo hi]; exact hv
  · rw [h.cell, ndX_hi hi]; exact hv
  · simp [nd1] at hv
theorem nd_there {W : World} {g : Nat} {t : TypeId} {d : Nat → Nat} {X : Array Value} {L : List Nat} {i : Nat} (h : HeldB W g t (ndX d X L)) (hi : i < L.length) : W.there g (i * 2) 2 := fun j hj => by
  refine ⟨?_, h.frozen _⟩
  rw [h.cell, ndX_at (by omega), ndC_at (by omega)]; rfl
theorem nd_put {W : World} {g : Nat} {t : TypeId} {d : Nat → Nat} {X : Array Value} {L : List Nat} {i : Nat} (h : HeldB W g t (ndX d X L)) (hi : i < L.length) (x : Nat) : HeldB (W.setCells g (i * 2) (nd1 d x).toList) g t (ndX d X (L.set i x)) := by
  rw [← ndX_put hi]
  exact (h.set (i * 2) _).set (i * 2 + 1) _
theorem ndX_cells {W : World} {g : Nat} {t : TypeId} {d : Nat → Nat} {X : Array Value} {L : List Nat} (h : HeldB W g t (ndX d X L)) : CellsAt W (some ⟨g, 0, none⟩) (ndL d L) := fun i u hu => by
  refine ⟨g, 0, rfl, ?_⟩
  have hi : i < 2 * L.length := by rw [← ndL_len d L]; exact (List.getElem?_eq_some_iff.1 hu).1
  rw [Nat.zero_add, h.cell, ndX_at hi]
  unfold ndC
  rw [List.getElem?_toArray]; exact hu
theorem owns_ndX {w : World} {base : Nat} {ao : Option Addr} {n cap : Nat} {d : Nat → Nat} {L : List Nat} (h : w.ownsRow base 62 2 (.slice ao n cap) n (ndL d L)) (hn : 1 ≤ n) : ∃ g X, ao = some ⟨g, 0, none⟩ ∧ base ≤ g ∧ n ≤ cap ∧ HeldB w g 62 (ndX d X L) := by
  rcases h.2 with ⟨hv, h0⟩ | ⟨g, cap', cur, hv, hb, hg, h1, h2, h3, h4⟩
  · omega
  · simp only [Value.slice.injEq, true_and] at hv
    obtain ⟨rfl, rfl⟩ := hv
    refine ⟨g, (cur.toList.drop (n * 2)).toArray, rfl, hb, h1, ?_⟩
    have he : ndX d (cur.toList.drop (n * 2)).toArray L = cur := by
      unfold ndX ndC
      rw [← h4]
      simp
    rw [he]
    exact hg
theorem nd_cells_range {W : World} {g : Nat} {d : Nat → Nat} {L : List Nat} {i : Nat} (h : CellsAt W (some ⟨g, 0, none⟩) (ndL d L)) (hi : i < L.length) : W.rangeAt g (i * 2) (nd1 d (L.getD i 0)).toList := fun j v hv => by
  have key : ∀ k u, (ndC d L)[k]? = some u → W.cell? ⟨g, k, none⟩ = some u := fun k u hu => by
    unfold ndC at hu
    rw [List.getElem?_toArray] at hu
    obtain ⟨b, off, e, hc⟩ := h k u hu
    cases e
    rwa [Nat.zero_add] at hc
  rcases j with _ | _ | j
  · rw [Nat.add_zero]; exact key _ _ ((ndC_lo hi).trans hv)
  · exact key _ _ ((ndC_hi hi).trans hv)
  · simp [nd1] at hv
theorem nd_grown (w : World) (g i : Nat) (d : Nat → Nat) (x : Nat) : w.grownBy (w.setCells g (i * 2) (nd1 d x).toList) (some g) :=
  grownBy_trans (gbCell w g (i * 2) _) (gbCell _ g (i * 2 + 1) _)
theorem nd_one (d : Nat → Nat) (x : Nat) : (nd1 d x).all (·.oneCell') = true := Array.all_eq_true_iff_forall_mem.2 fun v hv => by
  simp only [nd1, List.mem_toArray, List.mem_cons, List.not_mem_nil, or_false] at hv
  rcases hv with rfl | rfl <;> rfl
theorem Try.sizeNd : (Try.prog.info? 62).map (·.size) = some 2 := by kernel_rfl

/-! # a drawing -/
def dwC (O : Array Value) (way : Int) (v : Value) : Array Value := O ++ #[.int .i64 way, v]
theorem dwC_size {O : Array Value} (h : O.size = 201) (way : Int) (v : Value) : (dwC O way v).size = 203 := by simp [dwC, h]
theorem dwC_lo {O : Array Value} {k : Nat} (hk : k < O.size) (way : Int) (v : Value) : (dwC O way v)[k]? = O[k]? := by
  unfold dwC; rw [Array.getElem?_append_left hk]
theorem dwC_way {O : Array Value} (h : O.size = 201) (way : Int) (v : Value) : (dwC O way v)[201]? = some (.int .i64 way) := by
  unfold dwC; rw [Array.getElem?_append_right (by omega), h]; rfl
theorem dwC_needs {O : Array Value} (h : O.size = 201) (way : Int) (v : Value) : (dwC O way v)[202]? = some v := by
  unfold dwC; rw [Array.getElem?_append_right (by omega), h]; rfl
theorem dw_order {W : World} {B : Nat} {t : TypeId} {O : Array Value} {way : Int} {v : Value} (h : HeldB W B t (dwC O way v)) : W.rangeAt B 0 O.toList := fun j x hx => by
  rw [Nat.zero_add, h.cell, dwC_lo (by rw [← Array.length_toList]; exact (List.getElem?_eq_some_iff.1 hx).1), ← Array.getElem?_toList]; exact hx
theorem dw_info {O : Array Value} (h : O.size = 201) (way : Int) (v : Value) : (Try.prog.info? 44).map (·.size) = some (dwC O way v).size := by rw [dwC_size h]; kernel_rfl
theorem or_info {O : Array Value} (h : O.size = 201) : (Try.prog.info? 41).map (·.size) = some O.toList.length := by rw [Array.length_toList, h]; kernel_rfl

/-! # which of two needs is put ahead -/
def cmpQ (q : Nat → Nat → Bool) (a b : Nat) : Int := if q a b = true then -1 else if q b a = true then 1 else 0
set_option maxRecDepth 100000 in
set_option maxHeartbeats 4000000 in
theorem forward_any {C : Array Value} (hC : C.size = 39) (F : Nat → Nat → Nat → Bool) (way : Int) (v : Value) (d : Nat → Nat) (a b : Nat) (w : World) (ha : a < 9) (hb : b < 9) :
    Calls Try.prog 24 #[.agg (dwC (ordC C F) way v), .agg (nd1 d a), .agg (nd1 d b)] w fun e w' => e = .returned (.int .i64 (cmpQ (firstQ F) a b)) ∧ Below w.heap.size w w' := by
  have hO := ordC_size hC F
  have HIF := Lib.hid (fun (w : World) => isFirst_any hC F a b w ha hb)
  have HIB := Lib.hid (fun (w : World) => isFirst_any hC F b a w hb ha)
  have hc : cmpQ (firstQ F) a b = if firstQ F a b = true then -1 else if firstQ F b a = true then 1 else 0 := rfl
  rw [hc]
  clear hc
  generalize firstQ F a b = x at *
  generalize firstQ F b a = y at *
  have b1 := HeldB.new w 44 (dwC (ordC C F) way v)
  have b2 := (b1.alloc (.cells (nd1 d a) 62)).alloc (.cells (nd1 d b) 62)
  have hr := dw_order b2
  have HOI := Lib.hid (or_info hO)
  have hB0 : Below w.heap.size w (((w.alloc (.cells (dwC (ordC C F) way v) 44)).alloc (.cells (nd1 d a) 62)).alloc (.cells (nd1 d b) 62)) := (((Below.refl _ w).alloc (Nat.le_refl _) _).alloc (by simp) _).alloc (by simp; omega) _
  have c2 := (HeldB.new ((w.alloc (.cells (dwC (ordC C F) way v) 44)).alloc (.cells (nd1 d a) 62)) 62 (nd1 d b)).cell 0
  have c1 := ((HeldB.new (w.alloc (.cells (dwC (ordC C F) way v) 44)) 62 (nd1 d a)).alloc (.cells (nd1 d b) 62)).cell 0
  rw [show (nd1 d b)[0]? = some (.int .i64 ((b : Nat) : Int)) from rfl] at c2
  rw [show (nd1 d a)[0]? = some (.int .i64 ((a : Nat) : Int)) from rfl] at c1
  simp only [World.size_alloc] at c1 c2
  have HC1 := Lib.hid c1; have HC2 := Lib.hid c2
  clear b1 b2 c1 c2
  unfold nd1 at hr hB0 HC1 HC2 ⊢
  generalize dwC (ordC C F) way v = D at *
  generalize hOO : ordC C F = O at *
  clear hOO hO
  have HR := Lib.hid hr; have HB := Lib.hid hB0
  clear hr hB0
  cases x
  · cases y
    · go_enter Try.func24, Try.ntmps24
      go_wp2_with (first
        | (refine wpList_load_mid rfl 41 _ rfl w.heap.size 0 rfl O.toList _ HR.out Try.underlying41 rfl HOI.out ?_)
        | (go_at_call 35; refine (HIF.out _).mono ?_; rintro e w1 ⟨rfl, hb1⟩; have k1 := cell_below HC1.out hb1; have k2 := cell_below HC2.out hb1; clear HIF)
        | (refine wpList_load_mid rfl 41 _ rfl w.heap.size 0 rfl O.toList _ (range_below HR.out hb1) Try.underlying41 rfl HOI.out ?_)
        | (go_at_call 35; refine (HIB.out _).mono ?_; rintro e w2 ⟨rfl, hb2⟩))
      go_ret
      exact ⟨by simp, below_step (below_step HB.out HB.out.size hb1) (below_step HB.out HB.out.size hb1).size hb2⟩
    · go_enter Try.func24, Try.ntmps24
      go_wp2_with (first
        | (refine wpList_load_mid rfl 41 _ rfl w.heap.size 0 rfl O.toList _ HR.out Try.underlying41 rfl HOI.out ?_)
        | (go_at_call 35; refine (HIF.out _).mono ?_; rintro e w1 ⟨rfl, hb1⟩; have k1 := cell_below HC1.out hb1; have k2 := cell_below HC2.out hb1; clear HIF)
        | (refine wpList_load_mid rfl 41 _ rfl w.heap.size 0 rfl O.toList _ (range_below HR.out hb1) Try.underlying41 rfl HOI.out ?_)
        | (go_at_call 35; refine (HIB.out _).mono ?_; rintro e w2 ⟨rfl, hb2⟩))
      go_ret
      exact ⟨by simp, below_step (below_step HB.out HB.out.size hb1) (below_step HB.out HB.out.size hb1).size hb2⟩
  · go_enter Try.func24, Try.ntmps24
    go_wp2_with (first
      | (refine wpList_load_mid rfl 41 _ rfl w.heap.size 0 rfl O.toList _ HR.out Try.underlying41 rfl HOI.out ?_)
      | (go_at_call 35; refine (HIF.out _).mono ?_; rintro e w1 ⟨rfl, hb1⟩; have k1 := cell_below HC1.out hb1; have k2 := cell_below HC2.out hb1; clear HIF)
      | (refine wpList_load_mid rfl 41 _ rfl w.heap.size 0 rfl O.toList _ (range_below HR.out hb1) Try.underlying41 rfl HOI.out ?_)
      | (go_at_call 35; refine (HIB.out _).mono ?_; rintro e w2 ⟨rfl, hb2⟩))
    go_ret
    exact ⟨by simp, below_step HB.out HB.out.size hb1⟩

end Go.Proofs.Ytobkbgbkkiiloaa

/-
  Needs are put in order: the insertion sort of slices.SortFunc. (Walks.)
-/
namespace Go.Proofs.Ytobkbgbkkiiloaa
open Go.RowKit

theorem cmpQ_yes {q : Nat → Nat → Bool} {a b : Nat} (h : q a b = true) : cmpQ q a b = -1 := by unfold cmpQ; rw [if_pos h]
theorem cmpQ_no {q : Nat → Nat → Bool} {a b : Nat} (h : q a b = false) : ∃ c : Nat, cmpQ q a b = (c : Int) := by
  unfold cmpQ
  rw [h]
  cases q b a
  · exact ⟨0, rfl⟩
  · exact ⟨1, rfl⟩
set_option maxRecDepth 100000 in
set_option maxHeartbeats 8000000 in
theorem insertionF_any {C : Array Value} (hC : C.size = 39) (F : Nat → Nat → Nat → Bool) (way : Int) (v : Value) (d : Nat → Nat) (X : Array Value) (r g cap : Nat) (L0 : List Nat) (w : World) (hr : r ≤ 9) (hq : Lin (firstQ F) r)
    (hB : HeldB w g 62 (ndX d X L0)) (h0 : Ins (firstQ F) r 1 L0) :
    Calls Try.prog 70 #[.slice (some ⟨g, 0, none⟩) r cap, .int .i64 0, .int .i64 (r : Int), .func (.func 24) #[.agg (dwC (ordC C F) way v)] #[]] w
      fun e w' => e = .returned (.tuple #[]) ∧ ∃ L, Srt (firstQ F) r L ∧ HeldB w' g 62 (ndX d X L) ∧ w.grownBy w' (some g) := by
  have HFW := Lib.hid (fun a b (w : World) (ha : a < 9) (hb : b < 9) => forward_any hC F way v d a b w ha hb)
  have HQ := Lib.hid hq
  clear hq
  generalize firstQ F = q at *
  generalize dwC (ordC C F) way v = D at *
  have hG0 : w.grownBy w (some g) := grownBy_of_below (Below.refl _ _) _
  go_enter Try.func70, Try.ntmps70
  go_wp2
  go_loopw [8, 9] (fun vi _ wr => ∃ (i : Nat) (L : List Nat), vi = .int .i64 (i : Int) ∧ i ≤ r + 1 ∧ HeldB wr g 62 (ndX d X L) ∧ Ins q r i L ∧ w.grownBy wr (some g)) (fun vi _ _ => r + 1 - (intOf vi).toNat)
  case atStart => exact ⟨1, L0, rfl, by omega, hB, h0, hG0⟩
  case round =>
    clear hB h0 hG0
    obtain ⟨i, L, rfl, hi, hH, hI, hG⟩ := hrel
    by_cases hir : i < r
    · have hJ := hI.inner hir
      clear hI
      go_wp2
      go_loopw [9] (fun vj wr => ∃ (j : Nat) (L : List Nat), vj = .int .i64 (j : Int) ∧ HeldB wr g 62 (ndX d X L) ∧ InJ q r i j L ∧ w.grownBy wr (some g)) (fun vj _ => (intOf vj).toNat)
      case atStart => exact ⟨i, L, rfl, hH, hJ, hG⟩
      case round =>
        clear hH hJ hG
        obtain ⟨j, L, rfl, hH, hJ, hG⟩ := hrel
        by_cases h1 : 1 ≤ j
        · obtain ⟨m, hm⟩ : ∃ m, j = m + 1 := ⟨j - 1, by omega⟩
          have hjr : j < r := by have := hJ.hj; omega
          have hla := hJ.lt j hjr
          have hlb := hJ.lt m (by omega)
          have hlen := hJ.len
          have hstop := fun h => (hJ.stop HQ.out h1 h)
          have hswap := fun h => (hJ.swap h1 h)
          rw [show j - 1 = m by omega] at hstop hswap
          have HRA := Lib.hid (fun (W : World) (h : HeldB W g 62 (ndX d X L)) => nd_range (i := j) h (by omega))
          have HRB := Lib.hid (fun (W : World) (h : HeldB W g 62 (ndX d X L)) => nd_range (i := m) h (by omega))
          have HTH := Lib.hid (fun (W : World) (L' : List Nat) (hl : L'.length = r) (h : HeldB W g 62 (ndX d X L')) => (⟨nd_there (i := j) h (by omega), nd_there (i := m) h (by omega)⟩ : W.there g (j * 2) 2 ∧ W.there g (m * 2) 2))
          have HPU := Lib.hid (fun (W : World) (L' : List Nat) (hl : L'.length = r) (h : HeldB W g 62 (ndX d X L')) => (⟨fun x => nd_put (i := j) h (by omega) x, fun x => nd_put (i := m) h (by omega) x⟩ : (∀ x, HeldB (W.setCells g (j * 2) (nd1 d x).toList) g 62 (ndX d X (L'.set j x))) ∧ ∀ x, HeldB (W.setCells g (m * 2) (nd1 d x).toList) g 62 (ndX d X (L'.set m x))))
          have HST := Lib.hid hstop; have HSW := Lib.hid hswap; have HL := Lib.hid hlen
          have HJ := Lib.hid hJ
          clear hstop hswap hlen hJ
          have hsw : swapL L j = (L.set j (L.getD m 0)).set m (L.getD j 0) := by unfold swapL; rw [show j - 1 = m by omega]
          have HSE := Lib.hid hsw; clear hsw
          have hmI : (j : Int) - 1 = (m : Int) := by omega
          have hm0 : 0 < j := by omega
          have hjrI : (j : Int) < (r : Int) := by omega
          have hmrI : (m : Int) < (r : Int) := by omega
          have hwm : wrap64 (m : Int) = (m : Int) := by unfold wrap64; omega
          have HM := Lib.hid hm; clear hm
          have hce : (ndX d X L)[j * 2]? = some (.int .i64 ((L.getD j 0 : Nat) : Int)) ∧ (ndX d X L)[j * 2 + 1]? = some (.int .i64 ((d (L.getD j 0) : Nat) : Int)) ∧ (ndX d X L)[m * 2]? = some (.int .i64 ((L.getD m 0 : Nat) : Int)) ∧ (ndX d X L)[m * 2 + 1]? = some (.int .i64 ((d (L.getD m 0) : Nat) : Int)) := ⟨ndX_lo (by rw [HL.out]; exact hjr), ndX_hi (by rw [HL.out]; exact hjr), ndX_lo (by rw [HL.out]; omega), ndX_hi (by rw [HL.out]; omega)⟩
          have HCE := Lib.hid hce; clear hce
          generalize L.getD j 0 = a at *
          generalize L.getD m 0 = b at *
          have HCP := Lib.hid (fun (w : World) => HFW.out a b w (by omega) (by omega))
          have HSB := Lib.hid hmI
          have HWK := Lib.hid (show IntKind.i64.wrap (m : Int) = (m : Int) by simp [IntKind.wrap, IntKind.bits, IntKind.signed]; omega)
          cases hab : q a b
          · obtain ⟨c, hc⟩ := cmpQ_no hab
            rw [hc] at HCP
            have hc0 : ¬ ((c : Int) < 0) := by omega
            have HCL := Lib.hid (fun (d : Nat) (os : Array Obj) => Calls.regrown_of (HCP.out (Sort.grow (redrawn wr d) os)))
            have HRX := Lib.hid (range_regrown (HRA.out _ hH))
            have HRY := Lib.hid (range_regrown (HRB.out _ hH))
            go_wp2
            refine wp_region_quiet_below (by kernel_rfl) (by kernel_rfl) ?_
            repeat (first | go_big_quiet_step (fail))
            refine wpQuiet_load_mid (by rfl) 62 _ rfl g (j * 2) (by rfl) (nd1 d a).toList (nd1 d a) rfl _ HRX.out Try.underlying62 rfl Try.sizeNd ?_
            go_simp
            repeat (first | go_big_quiet_step (fail))
            refine wpQuiet_load_mid (by rfl) 62 _ rfl g (m * 2) (by rfl) (nd1 d b).toList (nd1 d b) rfl _ HRY.out Try.underlying62 rfl Try.sizeNd ?_
            go_simp
            repeat (first | go_big_quiet_step (with_reducible exact HCL.out _ _) | quiet_step (with_reducible exact HCL.out _ _))
            refine wpQuiet_nil ?_
            intro r7
            have hb7 := below_regrown wr r7.d r7.os
            generalize Sort.grow (redrawn wr r7.d) r7.os = W7 at *
            have hH7 := hH.below hb7
            have hG7 := grownBy_trans hG (grownBy_of_below hb7 _)
            clear HRX HRY HCL hH hG hb7
            go_wp2
            go_roundw
            case rel => exact ⟨i + 1, L, by go_num, by omega, hH7, HST.out hab, hG7⟩
            case measure => simp [intOf]; omega
          · rw [cmpQ_yes hab] at HCP
            have HCL := Lib.hid (fun (d : Nat) (os : Array Obj) => Calls.regrown_of (HCP.out (Sort.grow (redrawn wr d) os)))
            have HRX := Lib.hid (range_regrown (HRA.out _ hH))
            have HRY := Lib.hid (range_regrown (HRB.out _ hH))
            go_wp2
            refine wp_region_quiet_below (by kernel_rfl) (by kernel_rfl) ?_
            repeat (first | go_big_quiet_step (fail))
            refine wpQuiet_load_mid (by rfl) 62 _ rfl g (j * 2) (by rfl) (nd1 d a).toList (nd1 d a) rfl _ HRX.out Try.underlying62 rfl Try.sizeNd ?_
            go_simp
            repeat (first | go_big_quiet_step (fail))
            refine wpQuiet_load_mid (by rfl) 62 _ rfl g (m * 2) (by rfl) (nd1 d b).toList (nd1 d b) rfl _ HRY.out Try.underlying62 rfl Try.sizeNd ?_
            go_simp
            repeat (first | go_big_quiet_step (with_reducible exact HCL.out _ _) | quiet_step (with_reducible exact HCL.out _ _))
            refine wpQuiet_nil ?_
            intro r7
            have hb7 := below_regrown wr r7.d r7.os
            generalize Sort.grow (redrawn wr r7.d) r7.os = W7 at *
            have hH7 := hH.below hb7
            have hG7 := grownBy_trans hG (grownBy_of_below hb7 _)
            clear HRX HRY HCL hH hG hb7
            have HSJ := Lib.hid (HSW.out hab)
            clear hab HST HSW HCP
            have HIX := Lib.hid hmI
            go_wp2
            have kA0 := (hH7.cell (j * 2)).trans HCE.out.1
            have kA1 := (hH7.cell (j * 2 + 1)).trans HCE.out.2.1
            have kB0 := (hH7.cell (m * 2)).trans HCE.out.2.2.1
            have kB1 := (hH7.cell (m * 2 + 1)).trans HCE.out.2.2.2
            have fA0 := hH7.frozen (j * 2)
            have fA1 := hH7.frozen (j * 2 + 1)
            have fB0 := hH7.frozen (m * 2)
            have fB1 := hH7.frozen (m * 2 + 1)
            have q1 := (HPU.out W7 L HL.out hH7).1 b
            have q2 := (HPU.out _ (L.set j b) (by rw [List.length_set]; exact HL.out) q1).2 a
            have hG8 := grownBy_trans hG7 (grownBy_trans (nd_grown W7 g j d b) (nd_grown _ g m d a))
            have Q2 := Lib.hid q2; have G8 := Lib.hid hG8
            clear q1 q2 hG8 hH7 hG7
            go_region
            go_wp2
            go_roundw
            case rel => exact ⟨m, swapL L j, by go_num, by rw [HSE.out]; exact Q2.out.drew, HSJ.out, grownBy_trans G8.out (grownBy_of_below (below_drewN _ _ 1) _)⟩
            case measure => have := HM.out; simp [intOf]; omega
        · obtain rfl : j = 0 := by omega
          have HI := Lib.hid hJ.stop0
          clear hJ
          go_wp2
          refine wp_region_quiet_below (by kernel_rfl) (by kernel_rfl) ?_
          repeat (first | go_big_quiet_step (fail))
          refine wpQuiet_nil ?_
          rintro _ ⟨r7, rfl⟩
          have hb7 := below_regrown wr r7.d r7.os
          generalize Sort.grow (redrawn wr r7.d) r7.os = W7 at *
          have hH7 := hH.below hb7
          have hG7 := grownBy_trans hG (grownBy_of_below hb7 _)
          clear hH hG hb7
          go_wp2
          go_roundw
          case rel => exact ⟨i + 1, L, by go_num, by omega, hH7, HI.out, hG7⟩
          case measure => simp [intOf]; omega
    · have hD := hI.done HQ.out (by omega)
      clear hI
      go_wp2
      exact bodyPost_end (v := .tuple #[]) (by simp [results, Try.results70, go_sem]) rfl ⟨rfl, L, hD, hH, hG⟩

end Go.Proofs.Ytobkbgbkkiiloaa

/-
  Needs are put in order: slices.SortFunc. (Walks.)
-/
namespace Go.Proofs.Ytobkbgbkkiiloaa
open Go.RowKit

set_option maxRecDepth 100000 in
set_option maxHeartbeats 4000000 in
theorem len64_any (n : Nat) (hn : n ≤ 9) (w : World) : Calls Try.prog 79 #[.int .u64 (n : Int)] w fun e w' => (∃ l : Int, e = .returned (.int .i64 l)) ∧ w' = w := by
  have hc : n = 0 ∨ n = 1 ∨ n = 2 ∨ n = 3 ∨ n = 4 ∨ n = 5 ∨ n = 6 ∨ n = 7 ∨ n = 8 ∨ n = 9 := by omega
  rcases hc with rfl | rfl | rfl | rfl | rfl | rfl | rfl | rfl | rfl | rfl
  all_goals
    go_enter Try.func79, Try.ntmps79
    go_wp2
    go_ret
    exact ⟨⟨_, rfl⟩, rfl⟩
set_option maxRecDepth 100000 in
theorem len_any (n : Nat) (hn : n ≤ 9) (w : World) : Calls Try.prog 48 #[.int .u64 (n : Int)] w fun e w' => (∃ l : Int, e = .returned (.int .i64 l)) ∧ w' = w := by
  have HL := Lib.hid (fun w => len64_any n hn w)
  go_enter Try.func48, Try.ntmps48
  go_wp2_with (go_at_call 79; refine (HL.out _).mono ?_; rintro e w' ⟨⟨l, rfl⟩, rfl⟩)
  go_ret
  exact ⟨⟨_, rfl⟩, rfl⟩
set_option maxRecDepth 100000 in
set_option maxHeartbeats 4000000 in
theorem pdqF_any {C : Array Value} (hC : C.size = 39) (F : Nat → Nat → Nat → Bool) (way : Int) (v : Value) (d : Nat → Nat) (X : Array Value) (r g cap : Nat) (lim : Int) (L0 : List Nat) (w : World) (hr : r ≤ 9) (hq : Lin (firstQ F) r)
    (hB : HeldB w g 62 (ndX d X L0)) (h0 : Ins (firstQ F) r 1 L0) :
    Calls Try.prog 47 #[.slice (some ⟨g, 0, none⟩) r cap, .int .i64 0, .int .i64 (r : Int), .int .i64 lim, .func (.func 24) #[.agg (dwC (ordC C F) way v)] #[]] w
      fun e w' => e = .returned (.tuple #[]) ∧ ∃ L, Srt (firstQ F) r L ∧ HeldB w' g 62 (ndX d X L) ∧ w.grownBy w' (some g) := by
  have HI := Lib.hid (insertionF_any hC F way v d X r g cap L0 w hr hq hB h0)
  clear hq hB h0
  generalize firstQ F = q at *
  generalize dwC (ordC C F) way v = D at *
  have h12 : (r : Int) ≤ 12 := by omega
  go_enter Try.func47, Try.ntmps47
  go_wp2
  refine wp_loop_rounds 1 ?_
  rw [rounds_succ]
  go_wp2_with (go_at_call 70; refine HI.out.mono ?_; rintro e w1 ⟨rfl, L, h1, h2, h3⟩)
  exact bodyPost_ret (results_none rfl _ _ _) rfl ⟨rfl, L, h1, h2, h3⟩
set_option maxRecDepth 100000 in
theorem sortF_any {C : Array Value} (hC : C.size = 39) (F : Nat → Nat → Nat → Bool) (way : Int) (v : Value) (d : Nat → Nat) (X : Array Value) (r g cap : Nat) (L0 : List Nat) (w : World) (hr : r ≤ 9) (hq : Lin (firstQ F) r)
    (hB : HeldB w g 62 (ndX d X L0)) (h0 : Ins (firstQ F) r 1 L0) :
    Calls Try.prog 33 #[.slice (some ⟨g, 0, none⟩) r cap, .func (.func 24) #[.agg (dwC (ordC C F) way v)] #[]] w
      fun e w' => e = .returned (.tuple #[]) ∧ ∃ L, Srt (firstQ F) r L ∧ HeldB w' g 62 (ndX d X L) ∧ w.grownBy w' (some g) := by
  have HI := Lib.hid (fun lim => pdqF_any hC F way v d X r g cap lim L0 w hr hq hB h0)
  have HL := Lib.hid (fun w => len_any r hr w)
  have hw : IntKind.u64.wrap (r : Int) = (r : Int) := by simp [IntKind.wrap, IntKind.bits, IntKind.signed]; omega
  clear hq hB h0
  generalize firstQ F = q at *
  generalize dwC (ordC C F) way v = D at *
  go_enter Try.func33, Try.ntmps33
  go_wp2_with (first
    | (go_at_call 48; refine (HL.out _).mono ?_; rintro e w' ⟨⟨l, rfl⟩, rfl⟩)
    | (go_at_call 47; refine (HI.out _).mono ?_; rintro e w1 ⟨rfl, L, h1, h2, h3⟩))
  go_end0
  exact ⟨rfl, L, h1, h2, h3⟩

end Go.Proofs.Ytobkbgbkkiiloaa

/-
  The program's greatest sums of needs, and the least width. (Walks.)
-/
namespace Go.Proofs.Ytobkbgbkkiiloaa
open Go.RowKit

set_option maxRecDepth 100000 in
set_option maxHeartbeats 4000000 in
theorem isApart_any {C : Array Value} (hC : C.size = 39) (F : Nat → Nat → Nat → Bool) (way : Nat) (hw : way < 2) (v : Value) (a b : Nat) (w : World) (ha : a < 9) (hb : b < 9) :
    Calls Try.prog 34 #[.agg (dwC (ordC C F) (way : Int) v), .int .i64 (a : Int), .int .i64 (b : Int)] w fun e w' => e = .returned (.bool (F way a b || F way b a)) ∧ Below w.heap.size w w' := by
  have hO := ordC_size hC F
  have hB := HeldB.new w 44 (dwC (ordC C F) (way : Int) v)
  have hbl := below_alloc w (.cells (dwC (ordC C F) (way : Int) v) 44)
  have k0 := (hB.cell 201).trans (dwC_way hO _ _)
  have k1 := (hB.cell (39 + way * 81 + a * 9 + b)).trans ((dwC_lo (by rw [hO]; omega) _ _).trans (ordC_at hC F hw ha hb))
  have k2 := (hB.cell (39 + way * 81 + b * 9 + a)).trans ((dwC_lo (by rw [hO]; omega) _ _).trans (ordC_at hC F hw hb ha))
  generalize dwC (ordC C F) (way : Int) v = D at *
  have hwi : (way : Int) < 2 := by omega
  have ha9 : (a : Int) < 9 := by omega
  have hb9 : (b : Int) < 9 := by omega
  clear hB hO
  generalize F way b a = y at *
  cases hx : F way a b
  · rw [hx] at k1
    clear hx
    go_enter Try.func34, Try.ntmps34
    go_wp2
    go_ret
    exact ⟨rfl, hbl⟩
  · rw [hx] at k1
    clear hx
    go_enter Try.func34, Try.ntmps34
    go_wp2
    go_ret
    exact ⟨rfl, hbl⟩
theorem Try.infoNd : (Try.prog.info? 62).map (fun i => (i.zero, i.size, i.bytes)) = some (some (.agg #[.int .i64 0, .int .i64 0]), 2, 16) := by kernel_rfl
theorem ndL_one (d : Nat → Nat) (L : List Nat) : ∀ v ∈ ndL d L, v.oneCell' = true := fun v hv => by
  unfold ndL at hv
  obtain ⟨_, _, rfl⟩ := List.mem_map.1 hv
  rfl
set_option maxRecDepth 100000 in
set_option maxHeartbeats 4000000 in
theorem cloneN_any (d : Nat → Nat) (L : List Nat) (r g cap : Nat) (w : World) (hl : L.length = r) (hr : 1 ≤ r) (hr9 : r ≤ 9) (hc : CellsAt w (some ⟨g, 0, none⟩) (ndL d L)) :
    Calls Try.prog 32 #[.slice (some ⟨g, 0, none⟩) r cap] w
      fun e w' => ∃ g2 c2 X, e = .returned (.slice (some ⟨g2, 0, none⟩) r c2) ∧ w.heap.size ≤ g2 ∧ r ≤ c2 ∧ HeldB w' g2 62 (ndX d X L) ∧ Below w.heap.size w w' := by
  obtain ⟨i, hi, hz, h1, h2⟩ := info_parts Try.infoNd
  have hb0 := below_alloc w (.cells #[] 62)
  have hr0 : (w.alloc (.cells #[] 62)).ownsRow w.heap.size 62 2 (.slice (some ⟨w.heap.size, 0, none⟩) 0 0) 0 [] := World.ownsRow_made w #[] 0 (Nat.le_refl _) (Nat.zero_le _) rfl
  have HCL := Lib.hid (fun j v (hv : (ndL d L)[j]? = some v) => show (w.alloc (.cells #[] 62)).cell? ((⟨g, 0, none⟩ : Addr).add j) = some v by
    obtain ⟨b, off, e, hcc⟩ := (hc.below hb0) j v hv
    cases e
    rw [Addr.add_mid]; exact hcc)
  have HON := Lib.hid (ndL_one d L)
  have HLL := Lib.hid (show (ndL d L).length = r * 2 by rw [ndL_len, hl]; omega)
  have hnil : ∀ W, (binOp .eql 42 (.slice (some ⟨g, 0, none⟩) r cap) (.slice none 0 0)).run Try.prog W = .ok (.bool false) W := fun W => Lib.run_eql_slice_some_nil W _ _ _ Try.underlying42
  clear hl hc
  go_enter Try.func32, Try.ntmps32
  go_wp2_with (at_builtin; go_loud (refine Go.wpList_append_own_at _ rfl _ _ 42 rfl w.heap.size 62 i (.agg #[.int .i64 0, .int .i64 0]) 2 16 Try.underlying42 hi hz h1 h2 rfl (by decide) (.slice (some ⟨w.heap.size, 0, none⟩) 0 0) 0 [] rfl hr0 ⟨g, 0, none⟩ r cap (ndL d L) rfl HLL.out HCL.out HON.out (by unfold maxLen; omega) (by omega) (by simp) ?_; intro v2 w2 hown hg hnil _))
  rw [List.nil_append, Nat.zero_add] at hown
  obtain ⟨ao, c2, rfl⟩ : ∃ ao c2, v2 = .slice ao r c2 := by
    rcases hown.2 with ⟨hv, h0⟩ | ⟨g', cap', cur, hv, _⟩
    · omega
    · exact ⟨_, _, hv⟩
  obtain ⟨g2, X, rfl, hg2, hn2, hH⟩ := owns_ndX hown hr
  have hb2 : Below w.heap.size w w2 := hb0.trans (below_of_grownBy hg (by simp) (fun k hk => by simp [Value.ownBlock] at hk; omega))
  go_wp2
  go_ret
  exact ⟨g2, c2, X, rfl, hg2, hn2, hH, hb2⟩

def AsSt (w : World) (D : Array Value) (gs gl : Nat) (d : Nat → Nat) (X : Array Value) (L S : List Nat) (wr : World) : Prop :=
  HeldB wr w.heap.size 44 D ∧ HeldB wr gs 3 (setsV S) ∧ HeldB wr gl 62 (ndX d X L) ∧ Below w.heap.size w wr
theorem AsSt.below {w : World} {D : Array Value} {gs gl : Nat} {d : Nat → Nat} {X : Array Value} {L S : List Nat} {wr w1 : World} (h : AsSt w D gs gl d X L S wr) (hb : Below wr.heap.size wr w1) : AsSt w D gs gl d X L S w1 :=
  ⟨h.1.below hb, h.2.1.below hb, h.2.2.1.below hb, below_step h.2.2.2 h.2.2.2.size hb⟩
theorem AsSt.put {w : World} {D : Array Value} {gs gl : Nat} {d : Nat → Nat} {X : Array Value} {L S T : List Nat} {wr : World} (h : AsSt w D gs gl d X L S wr) (hgs : w.heap.size < gs) (hne : gl ≠ gs) (x m : Nat) (hT : S.set x m = T) : AsSt w D gs gl d X L T (wr.setCell ⟨gs, x, none⟩ (.int .i64 (m : Nat))) := by
  refine ⟨h.1.other (by simp; omega) _, ?_, h.2.2.1.other (by simpa using hne) _, h.2.2.2.setCell (by simp; omega) _⟩
  rw [← hT, ← setsV_put]
  exact h.2.1.set x _
theorem max_sum (y x e : Nat) : (if (y : Int) < (x : Int) + (e : Int) then (x : Int) + (e : Int) else (y : Int)) = ((max y (x + e) : Nat) : Int) := by split <;> omega

set_option maxRecDepth 100000 in
set_option maxHeartbeats 8000000 in
theorem aheadF_any (h wd r : Nat) (gg : Nat → Nat → Nat) (F : Nat → Nat → Nat → Bool) (way : Nat) (hw : way < 2) (d : Nat → Nat) (gn cn : Nat) (w : World) (hr : r ≤ 9) (hr1 : 1 ≤ r) (G : Goes (F way) (firstQ F) r) (hd : ∀ a, a < r → d a ≤ 9)
    (hN : CellsAt w (some ⟨gn, 0, none⟩) (ndL d (List.range r))) :
    Calls Try.prog 23 #[.agg (dwC (ordC (planC h wd r gg) F) (way : Int) (.slice (some ⟨gn, 0, none⟩) r cn)), .func (.func 24) #[.agg (dwC (ordC (planC h wd r gg) F) (way : Int) (.slice (some ⟨gn, 0, none⟩) r cn))] #[]] w
      fun e w' => PlRet w.heap.size (sumL (F way) d r) e w' ∧ Below w.heap.size w w' := by
  have hC := planC_size h wd r gg
  have hO := ordC_size hC F
  have HSO := Lib.hid (fun (X : Array Value) (g cap : Nat) (w : World) hB => sortF_any hC F (way : Int) (.slice (some ⟨gn, 0, none⟩) r cn) d X r g cap (List.range r) w hr G.lin hB (Ins.start _ _))
  have HCN := Lib.hid (fun (w : World) hc => cloneN_any d (List.range r) r gn cn w (by simp) hr1 hr hc)
  have HAP := Lib.hid (fun a b (w : World) (ha : a < 9) (hb : b < 9) => isApart_any hC F way hw (.slice (some ⟨gn, 0, none⟩) r cn) a b w ha hb)
  have hB := HeldB.new w 44 (dwC (ordC (planC h wd r gg) F) (way : Int) (.slice (some ⟨gn, 0, none⟩) r cn))
  have HK2 := Lib.hid ((dwC_lo (k := 2) (by rw [hO]; omega) (way : Int) (.slice (some ⟨gn, 0, none⟩) r cn)).trans (show (ordC (planC h wd r gg) F)[2]? = some (.int .i64 (r : Nat)) by rw [ordC_lo F (by rw [planC_size]; omega), planC_2]))
  have HKN := Lib.hid (dwC_needs hO (way : Int) (.slice (some ⟨gn, 0, none⟩) r cn))
  have HSZ := Lib.hid (dw_info hO (way : Int) (.slice (some ⟨gn, 0, none⟩) r cn))
  have HG := Lib.hid G
  have HF := Lib.hid (fun b (hb : b < r) => G.sum_few hd hb hr)
  have HIR := Lib.hid (fun a b (hq : firstQ F a b = true) (ha : a < r) (hb : b < r) => show (F way a b || F way b a) = F way a b by
    cases hba : F way b a
    · rw [Bool.or_false]
    · have h2 := (G.imp _ _ hba).2.2
      have := G.lin.trans _ _ _ ha hb ha hq h2
      rw [G.lin.irr a ha] at this; cases this)
  have HD9 := Lib.hid hd
  have hb0 := below_alloc w (.cells (dwC (ordC (planC h wd r gg) F) (way : Int) (.slice (some ⟨gn, 0, none⟩) r cn)) 44)
  have c2 := (hB.cell 2).trans HK2.out
  have HB := Lib.hid hB; have HB0 := Lib.hid hb0; have HN := Lib.hid hN
  clear hC hO G hd hB hb0 hN
  generalize firstQ F = q at *
  generalize hff : F way = f at *
  generalize dwC (ordC (planC h wd r gg) F) (way : Int) (.slice (some ⟨gn, 0, none⟩) r cn) = D at *
  clear hff
  obtain ⟨im, hmi, hmz, hm1, hm2⟩ := info_parts Try.infoNum
  go_enter Try.func23, Try.ntmps23
  go_wp2_with (at_make; refine wpList_make_full _ rfl _ _ 24 rfl (w.heap.size + 1) 3 im (.int .i64 0) 1 Try.underlying24 hmi hmz hm1 .i64 .i64 _ _ r rfl rfl rfl rfl ?d2 ?d3 (by simp) ?_; rotate_left 2; intro w2 ho2 hg2; have bD2 := HB.out.kept hg2 (by simp); have kN2 := (bD2.cell 202).trans HKN.out)
  case d2 => rw [hm2]; omega
  case d3 => unfold maxLen; omega
  have hb2 : Below w.heap.size w w2 := HB0.out.trans ((below_of_grownBy hg2 (Nat.le_refl _) (by simp)).mono (by simp))
  have hz2 := held_zeros ho2
  simp only [World.size_alloc] at hz2
  have hlz := hz2.lt
  have hs2 : w.heap.size + 1 < w2.heap.size := hlz
  clear ho2 hg2 c2 kN2
  refine (HCN.out _ (HN.out.below hb2)).mono ?_
  rintro e w3 ⟨gl, cl, X, rfl, hgl, hcl, hX3, hb3⟩
  have bD3 := bD2.below hb3
  have hz3 := hz2.below hb3
  have hB3 := below_step hb2 hb2.size hb3
  clear bD2 hz2 hb2 HCN hb3
  go_wp2_with fail
  refine (HSO.out X gl cl _ hX3).mono ?_
  rintro e w4 ⟨rfl, L, hL, hX4, hg4⟩
  have st4 : AsSt w D (w.heap.size + 1) gl d X L (List.replicate r 0) w4 := ⟨bD3.kept hg4 (by simp only [ne_eq, Option.some.injEq]; omega), hz3.kept hg4 (by simp only [ne_eq, Option.some.injEq]; omega), hX4, hB3.trans (below_of_grownBy hg4 hB3.size (fun k hk => by cases hk; omega))⟩
  clear bD3 hz3 hB3 hX3 hX4 hg4 HSO HB HB0 HN
  have as4 : AhS f d r L 0 0 (List.replicate r 0) := AhS.start hL
  have HL := Lib.hid hL; clear hL
  have hgl2 : w.heap.size + 1 < gl := by omega
  go_wp2
  go_loopw [24] (fun vk wr => ∃ (k : Nat) (S : List Nat), k ≤ r ∧ vk = .int .i64 (k : Int) ∧ AsSt w D (w.heap.size + 1) gl d X L S wr ∧ AhS f d r L k 0 S) (fun vk _ => r - (intOf vk).toNat)
  case atStart => exact ⟨0, _, Nat.zero_le _, rfl, st4, as4⟩
  case round =>
    clear st4 as4
    obtain ⟨k, S, hk, rfl, hst, hah⟩ := hrel
    by_cases hkr : k < r
    · have hrg := nd_range hst.2.2.1 (i := k) (by rw [HL.out.len]; exact hkr)
      have hkc : (k : Int) ≤ (cl : Int) := by omega
      have hkrI : (k : Int) < (r : Int) := by omega
      have hbr := HL.out.lt k hkr
      have HAH := Lib.hid hah
      clear hah
      generalize hbb : L.getD k 0 = b at *
      have HBB := Lib.hid hbb; clear hbb
      have HGB := Lib.hid (show w.heap.size + 1 < wr.heap.size from hst.2.1.lt)
      have hst5 := hst.below (below_alloc wr (.cells (nd1 d b) 62))
      have bb5 := HeldB.new wr 62 (nd1 d b)
      clear hst
      go_wp2_with (refine wpList_load_mid rfl 62 _ rfl gl (k * 2) rfl (nd1 d b).toList _ hrg Try.underlying62 rfl Try.sizeNd ?_; simp only [nd1])
      unfold nd1 at hst5 bb5
      have hgb : w.heap.size + 1 < wr.heap.size := HGB.out
      generalize hW5 : wr.alloc (.cells #[.int .i64 ((b : Nat) : Int), .int .i64 ((d b : Nat) : Int)] 62) = W5 at *
      generalize wr.heap.size = gb at *
      clear hW5 hrg
      go_loopw [33] (fun vi wr => ∃ (i : Nat) (S : List Nat), i ≤ k ∧ vi = .int .i64 (i : Int) ∧ AsSt w D (w.heap.size + 1) gl d X L S wr ∧ HeldB wr gb 62 #[.int .i64 ((b : Nat) : Int), .int .i64 ((d b : Nat) : Int)] ∧ AhS f d r L k i S) (fun vi _ => k - (intOf vi).toNat)
      case atStart => exact ⟨0, S, Nat.zero_le _, rfl, hst5, bb5, HAH.out⟩
      case round =>
        clear hst5 bb5 HAH
        obtain ⟨i, S, hi, rfl, hst, hbx, hah⟩ := hrel
        by_cases hik : i < k
        · have hir : i < r := by omega
          have hrg := nd_range hst.2.2.1 (i := i) (by rw [HL.out.len]; exact hir)
          have har := HL.out.lt i hir
          have hqq := HL.out.ord i k hik hkr
          have hsa := Nat.le_trans (hah.few HG.out HL.out hkr (by omega) _ har) (HF.out _ har)
          have hsb := Nat.le_trans (hah.few HG.out HL.out hkr (by omega) b hbr) (HF.out b hbr)
          have hda := HD9.out _ har
          have hskip := fun h => hah.skip (i := i) h
          have hstep := fun h => hah.step HG.out.lin HL.out hkr hik h
          have hsl := hah.len
          rw [HBB.out] at hskip hstep hqq
          clear hah
          generalize L.getD i 0 = a at *
          have HSK := Lib.hid hskip; have HSP := Lib.hid hstep
          clear hskip hstep
          have HAX := Lib.hid (fun (w : World) => by have := HAP.out a b w (by omega) (by omega); rwa [HIR.out a b hqq har hbr] at this)
          have hst2 := hst.below (below_alloc wr (.cells (nd1 d a) 62))
          have bx2 := hbx.alloc (.cells (nd1 d a) 62)
          have ba2 := HeldB.new wr 62 (nd1 d a)
          unfold nd1 at hst2 bx2 ba2
          have cb0 := bx2.cell 0
          have ca0 := ba2.cell 0
          rw [show (#[.int .i64 ((b : Nat) : Int), .int .i64 ((d b : Nat) : Int)] : Array Value)[0]? = some (.int .i64 ((b : Nat) : Int)) from rfl] at cb0
          rw [show (#[.int .i64 ((a : Nat) : Int), .int .i64 ((d a : Nat) : Int)] : Array Value)[0]? = some (.int .i64 ((a : Nat) : Int)) from rfl] at ca0
          have hD2 : (wr.alloc (.cells #[.int .i64 ((a : Nat) : Int), .int .i64 ((d a : Nat) : Int)] 62)).heap[w.heap.size]? = some (.cells D 44 (0, 0)) := hst2.1
          have hikI : (i : Int) < (k : Int) := by omega
          have hirI : (i : Int) < (r : Int) := by omega
          have harI : (a : Int) < (r : Int) := by omega
          have hbrI : (b : Int) < (r : Int) := by omega
          have hga : w.heap.size + 1 < wr.heap.size := hst.2.1.lt
          cases hfab : f a b
          · rw [hfab] at HAX
            have hSK := Lib.hid (HSK.out hfab)
            clear hst hbx HSK HSP hfab hsa hsb
            go_wp2_with (first
              | (refine wpList_load_mid rfl 62 _ rfl gl (i * 2) rfl (nd1 d a).toList _ hrg Try.underlying62 rfl Try.sizeNd ?_; simp only [nd1])
              | (refine wpList_load_row rfl 44 _ rfl w.heap.size rfl 44 D (0, 0) _ hD2 Try.underlying44 rfl HSZ.out ?_)
              | (go_at_call 34; refine (HAX.out _).mono ?_; rintro e w7 ⟨rfl, hb7⟩))
            go_roundw
            case rel => exact ⟨i + 1, S, by omega, by go_num, hst2.below hb7, bx2.below hb7, hSK.out⟩
            case measure => simp [intOf]; omega
          · rw [hfab] at HAX
            have hSP := Lib.hid (HSP.out hfab)
            clear hst hbx HSK HSP hfab
            go_wp2_with (first
              | (refine wpList_load_mid rfl 62 _ rfl gl (i * 2) rfl (nd1 d a).toList _ hrg Try.underlying62 rfl Try.sizeNd ?_; simp only [nd1])
              | (refine wpList_load_row rfl 44 _ rfl w.heap.size rfl 44 D (0, 0) _ hD2 Try.underlying44 rfl HSZ.out ?_)
              | (go_at_call 34; refine (HAX.out _).mono ?_; rintro e w7 ⟨rfl, hb7⟩))
            have st7 := hst2.below hb7
            have bx7 := bx2.below hb7
            have ba7 := ba2.below hb7
            generalize wr.heap.size = ga at *
            clear hst2 bx2 ba2 cb0 ca0 hD2 hb7 hrg
            have cb0 := bx7.cell 0
            have ca0 := ba7.cell 0
            have ca1 := ba7.cell 1
            rw [show (#[.int .i64 ((b : Nat) : Int), .int .i64 ((d b : Nat) : Int)] : Array Value)[0]? = some (.int .i64 ((b : Nat) : Int)) from rfl] at cb0
            rw [show (#[.int .i64 ((a : Nat) : Int), .int .i64 ((d a : Nat) : Int)] : Array Value)[0]? = some (.int .i64 ((a : Nat) : Int)) from rfl] at ca0
            rw [show (#[.int .i64 ((a : Nat) : Int), .int .i64 ((d a : Nat) : Int)] : Array Value)[1]? = some (.int .i64 ((d a : Nat) : Int)) from rfl] at ca1
            have kb := (st7.2.1.cell b).trans (setsV_at (by rw [hsl]; exact hbr))
            have ka := (st7.2.1.cell a).trans (setsV_at (by rw [hsl]; exact har))
            have fb := st7.2.1.frozen b
            obtain ⟨mm, hmm⟩ : ∃ mm, mm = max (S.getD b 0) (S.getD a 0 + d a) := ⟨_, rfl⟩
            have hs8 := st7.put (by omega) (by omega) b mm rfl
            have bx8 := bx7.other (a := ⟨w.heap.size + 1, b, none⟩) (by simp; omega) (.int .i64 (mm : Nat))
            rw [← hmm] at hSP
            obtain ⟨y, hy⟩ : ∃ y, y = S.getD b 0 := ⟨_, rfl⟩
            obtain ⟨x, hx⟩ : ∃ x, x = S.getD a 0 := ⟨_, rfl⟩
            rw [← hy] at kb hmm hsb
            rw [← hx] at ka hmm hsa
            have HMX := Lib.hid (show (if (y : Int) < (x : Int) + (d a : Int) then (x : Int) + (d a : Int) else (y : Int)) = (mm : Int) by rw [max_sum, hmm])
            have hs8 := Lib.hid hs8; have bx8 := Lib.hid bx8
            clear hy hx hmm st7 bx7 ba7
            generalize d a = e at *
            go_wp2
            go_region
            rw [HMX.out]
            go_wp2
            go_roundw
            case rel => exact ⟨i + 1, _, by omega, by go_num, hs8.out.below (below_drewN _ _ 1), bx8.out.drew, hSP.out⟩
            case measure => simp [intOf]; omega
        · obtain rfl : i = k := by omega
          have hn := hah.next HG.out HL.out hkr
          clear hah
          go_wp2
          go_roundw
          case rel => exact ⟨i + 1, S, by omega, by go_num, hst, hn⟩
          case measure => simp [intOf]; omega
    · obtain rfl : k = r := by omega
      have hd := hah.done HL.out
      subst hd
      go_wp2
      go_ret
      refine ⟨⟨w.heap.size + 1, by omega, ?_, hst.2.1⟩, hst.2.2.2⟩
      rw [sumL_len]; rfl

end Go.Proofs.Ytobkbgbkkiiloaa

/-
  The program's least width of a drawing. (Walks.)
-/
namespace Go.Proofs.Ytobkbgbkkiiloaa
open Go.RowKit

theorem range_at {r k : Nat} (hk : k < r) : (List.range r).getD k 0 = k := by simp [hk]
set_option maxRecDepth 100000 in
set_option maxHeartbeats 8000000 in
theorem least_any (h wd r : Nat) (gg : Nat → Nat → Nat) (F : Nat → Nat → Nat → Bool) (way : Nat) (hw : way < 2) (d : Nat → Nat) (gn cn : Nat) (w : World) (hr : r ≤ 9) (hr1 : 1 ≤ r) (G : Goes (F way) (firstQ F) r) (hd : ∀ a, a < r → d a ≤ 9)
    (hN : CellsAt w (some ⟨gn, 0, none⟩) (ndL d (List.range r))) :
    Calls Try.prog 13 #[.agg (dwC (ordC (planC h wd r gg) F) (way : Int) (.slice (some ⟨gn, 0, none⟩) r cn))] w
      fun e w' => e = .returned (.int .i64 ((endS (F way) d r : Nat) : Int)) ∧ Below w.heap.size w w' := by
  have hC := planC_size h wd r gg
  have hO := ordC_size hC F
  have HAH := Lib.hid (fun (w : World) hN => aheadF_any h wd r gg F way hw d gn cn w hr hr1 G hd hN)
  have hB := HeldB.new w 44 (dwC (ordC (planC h wd r gg) F) (way : Int) (.slice (some ⟨gn, 0, none⟩) r cn))
  have HKN := Lib.hid (dwC_needs hO (way : Int) (.slice (some ⟨gn, 0, none⟩) r cn))
  have HSZ := Lib.hid (dw_info hO (way : Int) (.slice (some ⟨gn, 0, none⟩) r cn))
  have hf : ∀ b, b < r → sumS (F way) d r b + d b ≤ 81 := fun b hb => by have := G.sum_few hd hb hr; have := hd b hb; omega
  have HEF := Lib.hid (fun k (hk : k ≤ r) => show eM (fun a => sumS (F way) d r a + d a) k ≤ 81 from (eM_le k).2 fun a ha => hf a (by omega))
  have HF := Lib.hid hf
  have HAT := Lib.hid (fun b (hb : b < r) => show (setsV (sumL (F way) d r))[b]? = some (.int .i64 ((sumS (F way) d r b : Nat) : Int)) by rw [setsV_at (by rw [sumL_len]; exact hb), sumL_at hb])
  have hb0 := below_alloc w (.cells (dwC (ordC (planC h wd r gg) F) (way : Int) (.slice (some ⟨gn, 0, none⟩) r cn)) 44)
  have HLN := Lib.hid (sumL_len (F way) d r)
  have HES := Lib.hid (show endS (F way) d r = eM (fun a => sumS (F way) d r a + d a) r from rfl)
  have HST := Lib.hid (fun k => show eM (fun a => sumS (F way) d r a + d a) (k + 1) = max (eM (fun a => sumS (F way) d r a + d a) k) (sumS (F way) d r k + d k) from rfl)
  have HZ := Lib.hid (show eM (fun a => sumS (F way) d r a + d a) 0 = 0 from rfl)
  clear hC hO G hd hf
  generalize sumL (F way) d r = SL at *
  generalize endS (F way) d r = es at *
  generalize hsu : sumS (F way) d r = su at *
  generalize hem : eM (fun a => su a + d a) = em at *
  generalize dwC (ordC (planC h wd r gg) F) (way : Int) (.slice (some ⟨gn, 0, none⟩) r cn) = D at *
  clear hsu hem
  have hW1 : (w.alloc (.cells D 44)).heap[w.heap.size]? = some (.cells D 44 (0, 0)) := hB
  have HN0 := Lib.hid hN
  have HN := Lib.hid (hN.below hb0)
  clear hN
  go_enter Try.func13, Try.ntmps13
  go_wp2_with (first
    | (refine wpList_load_row rfl 44 _ rfl w.heap.size rfl 44 D (0, 0) _ hW1 Try.underlying44 rfl HSZ.out ?_)
    | (go_at_call 23; refine (HAH.out _ HN.out).mono ?_; rintro e w2 ⟨⟨gA, hgA, rfl, hA⟩, hb2⟩; have bD2 := hB.below hb2; have kN2 := (bD2.cell 202).trans HKN.out; clear HAH))
  have hB2 := below_step hb0 hb0.size hb2
  have hN2 := HN.out.below hb2
  rw [HLN.out] at *
  clear hB hb0 hW1 hb2 bD2 kN2 HKN
  go_loopw [4, 14] (fun vm vk wr => ∃ (k : Nat), k ≤ r ∧ vk = .int .i64 (k : Int) ∧ vm = .int .i64 ((em k : Nat) : Int) ∧ HeldB wr gA 3 (setsV SL) ∧ CellsAt wr (some ⟨gn, 0, none⟩) (ndL d (List.range r)) ∧ Below w.heap.size w wr) (fun _ vk _ => r - (intOf vk).toNat)
  case atStart => exact ⟨0, Nat.zero_le _, rfl, by rw [HZ.out]; rfl, hA, hN2, hB2⟩
  case round =>
    clear hA hN2 hB2
    obtain ⟨k, hk, rfl, rfl, hA, hN, hB⟩ := hrel
    by_cases hkr : k < r
    · have hrg := nd_cells_range hN (i := k) (by rw [List.length_range]; exact hkr)
      rw [range_at hkr] at hrg
      have hkrI : (k : Int) < (r : Int) := by omega
      have hA2 := hA.alloc (.cells (nd1 d k) 62)
      have hN2 := hN.below (below_alloc wr (.cells (nd1 d k) 62))
      have hB2 := hB.alloc hB.size (.cells (nd1 d k) 62)
      have bk := HeldB.new wr 62 (nd1 d k)
      have ck0 := bk.cell 0
      have ck1 := bk.cell 1
      rw [show (nd1 d k)[0]? = some (.int .i64 ((k : Nat) : Int)) from rfl] at ck0
      rw [show (nd1 d k)[1]? = some (.int .i64 ((d k : Nat) : Int)) from rfl] at ck1
      have cS := (hA2.cell k).trans (HAT.out k hkr)
      have hs81 := HF.out k hkr
      have he81 := HEF.out k hk
      have hst := HST.out k
      unfold nd1 at hA2 hN2 hB2 ck0 ck1 cS
      clear hA hN hB bk
      obtain ⟨mm, hmm⟩ : ∃ mm, em (k + 1) = mm := ⟨_, rfl⟩
      have HEQ := Lib.hid (show (Value.int .i64 (mm : Int)) = .int .i64 ((em (k + 1) : Nat) : Int) by rw [hmm])
      rw [hmm] at hst
      clear hmm
      generalize em k = y at *
      generalize su k = x at *
      have HMX := Lib.hid (show (if (y : Int) < (x : Int) + (d k : Int) then (x : Int) + (d k : Int) else (y : Int)) = (mm : Int) by rw [max_sum, hst])
      clear hst
      go_wp2_with (refine wpList_load_mid rfl 62 _ rfl gn (k * 2) rfl (nd1 d k).toList _ hrg Try.underlying62 rfl Try.sizeNd ?_; simp only [nd1])
      go_region
      rw [HMX.out]
      go_wp2
      go_roundw
      case rel => exact ⟨k + 1, by omega, by go_num, HEQ.out, hA2.below (below_drewN _ _ 1), hN2.below (below_drewN _ _ 1), hB2.trans (below_drewN _ _ 1)⟩
      case measure => simp [intOf]; omega
    · obtain rfl : k = r := by omega
      have he := HES.out
      clear hN hA
      go_wp2
      go_ret
      exact ⟨by first | rfl | (rw [he]; rfl), hB⟩

end Go.Proofs.Ytobkbgbkkiiloaa

/-
  Merged texts: SizS SizC SizU.
-/
/-
  The model's least widths. (Walks.)
-/
namespace Go.Proofs.Ytobkbgbkkiiloaa
open Go.RowKit

/-- the needs of a list -/
def dN (l : List Int) (a : Nat) : Nat := (l.getD a 0).toNat
/-- may a list be needs of a plan -/
def needB (l : List Int) : Bool := l.all fun x => decide (1 ≤ x) && decide (x ≤ 9)
def sizedB (p : List ByteArray) (l : List Int) : Bool := plainB p && (decide (l.length = gridR p) && needB l)
theorem needB_at {l : List Int} (h : needB l = true) {a : Nat} (ha : a < l.length) : l.getD a 0 = ((dN l a : Nat) : Int) ∧ 1 ≤ dN l a ∧ dN l a ≤ 9 := by
  unfold needB at h
  rw [List.all_eq_true] at h
  have := h (l.getD a 0) (by rw [List.getD_eq_getElem?_getD, List.getElem?_eq_getElem ha]; exact List.getElem_mem ha)
  rw [Bool.and_eq_true, decide_eq_true_eq, decide_eq_true_eq] at this
  unfold dN
  omega
theorem needB_take {l : List Int} {i : Nat} (hi : i < l.length) : needB (l.take (i + 1)) = (needB (l.take i) && (decide (1 ≤ l.getD i 0) && decide (l.getD i 0 ≤ 9))) := by
  unfold needB
  rw [take_succ_getD l i 0 hi, List.all_append]
  simp
theorem needB_stop {l : List Int} {i : Nat} (hi : i < l.length) (h : (decide (1 ≤ l.getD i 0) && decide (l.getD i 0 ≤ 9)) = false) : needB l = false := by
  cases hn : needB l
  · rfl
  · have := needB_at hn hi
    rw [Bool.and_eq_false_iff, decide_eq_false_iff_not, decide_eq_false_iff_not] at h
    omega
theorem sizedB_yes {p : List ByteArray} {l : List Int} (h : sizedB p l = true) : plainB p = true ∧ l.length = gridR p ∧ needB l = true := by
  unfold sizedB at h
  rw [Bool.and_eq_true, Bool.and_eq_true, decide_eq_true_eq] at h
  exact h

theorem max_sumS (y x e : Nat) : (if (y : Int) < (x : Int) + (e : Int) then (x : Int) + (e : Int) else (y : Int)) = ((max y (x + e) : Nat) : Int) := by split <;> omega
def PzSt (w : World) (gs : Nat) (S0 S : List Nat) (wr : World) : Prop := HeldB wr gs 3 (setsV S0) ∧ HeldB wr w.heap.size 3 (setsV S) ∧ Below w.heap.size w wr
theorem PzSt.put {w : World} {gs : Nat} {S0 S T : List Nat} {wr : World} (h : PzSt w gs S0 S wr) (hgn : gs ≠ w.heap.size) (x m : Nat) (hT : S.set x m = T) : PzSt w gs S0 T (wr.setCell ⟨w.heap.size, x, none⟩ (.int .i64 (m : Nat))) := by
  refine ⟨h.1.other (by simpa using hgn) _, ?_, h.2.2.setCell (Nat.le_refl _) _⟩
  rw [← hT, ← setsV_put]
  exact h.2.1.set x _
theorem PzSt.drew {w : World} {gs : Nat} {S0 S : List Nat} {wr : World} (h : PzSt w gs S0 S wr) : PzSt w gs S0 S wr.drew := ⟨h.1.drew, h.2.1.drew, h.2.2.drew⟩
set_option maxRecDepth 100000 in
set_option maxHeartbeats 8000000 in
theorem l7Places_any (ao bo : Option Addr) (ca cb : Nat) (p : List ByteArray) (l : List Int) (kind : Nat) (w : World) (hl : p.length ≤ 1048576) (hs : ∀ s ∈ p, s.size ≤ 1048576) (hp : plainB p = true) (hlen : l.length = gridR p) (hn : needB l = true) (hk : kind < 2)
    (hc : CellsAt w ao (p.map Value.string)) (hd : CellsAt w bo (l.map (Value.int .i64))) :
    Calls Try.prog 20 #[.slice ao p.length ca, .slice bo (gridR p) cb, .int .i64 kind] w fun e w' => PlRet w.heap.size (sumL (pL p kind) (dN l) (gridR p)) e w' ∧ Below w.heap.size w w' := by
  have HA := Lib.hid (fun w hc => l5AllP_any ao ca p kind w hl hs (plainB_plan hp) hc)
  have hr9 := (planP_of (plainB_plan hp)).few
  have hr1 : 1 ≤ gridR p := by
    have hP := planP_of (plainB_plan hp)
    have h := gridG_lt (p := p) (i := 0) (j := 0) (by have := hP.grid.h1; omega) (by have := hP.grid.w1; omega)
    omega
  have G := pL_goes hp hk
  have hdd : ∀ a, a < gridR p → dN l a ≤ 9 := fun a ha => (needB_at hn (by omega)).2.2
  have HUP := Lib.hid (fun b (hb : b < gridR p) => G.sum_few hdd hb hr9)
  have HND := Lib.hid (fun a (ha : a < gridR p) => needB_at hn (by omega : a < l.length))
  have HLN := Lib.hid hlen
  have HG := Lib.hid G
  clear hl hs hp hlen hn hdd G
  generalize pL p kind = f at *
  generalize firstQ (pL p) = q at *
  generalize gridR p = r at *
  generalize hdl : dN l = d at *
  clear hdl
  obtain ⟨im, hmi, hmz, hm1, hm2⟩ := info_parts Try.infoNum
  have HDC := Lib.hid hd
  clear hd
  go_enter Try.func20, Try.ntmps20
  go_wp2_with fail
  refine (HA.out _ hc).mono ?_
  rintro e w1 ⟨⟨S0, his, gs, hgs, rfl, hB0⟩, hb1⟩
  have HBIT := Lib.hid (fun (x y : Nat) (hx : x < r) => show (bits .and .i64 (((S0.getD x 0 : Nat) : Int) / 2 ^ y) 1 == 1) = f x y by
    rw [← his.bit x y hx]; exact bit_i64 _ y (his.low x hx))
  have HCEL := Lib.hid (fun (x : Nat) (hx : x < r) => show (setsV S0)[x]? = some (.int .i64 ((S0.getD x 0 : Nat) : Int)) from setsV_at (by rw [his.len]; exact hx))
  have hsl := his.len
  clear his
  rw [hsl]
  have HSL := Lib.hid hsl
  clear hsl
  have hdc1 := HDC.out.below hb1
  clear hc HA
  go_wp2_with (at_make; refine wpList_make_full _ rfl _ _ 24 rfl w1.heap.size 3 im (.int .i64 0) 1 Try.underlying24 hmi hmz hm1 .i64 .i64 _ _ r rfl rfl rfl rfl ?d2 ?d3 (Nat.le_refl _) ?_; rotate_left 2; intro w3 ho3 hg3; have hb3 : Below w1.heap.size w1 w3 := below_of_grownBy hg3 (Nat.le_refl _) (by simp); have hz := held_zeros ho3)
  case d2 => rw [hm2]; omega
  case d3 => unfold maxLen; omega
  have hgn : gs ≠ w1.heap.size := by have := hB0.lt; omega
  have st3 : PzSt w1 gs S0 (List.replicate r 0) w3 := ⟨hB0.below hb3, hz, hb3⟩
  have wa3 : WaJ f d r 0 0 0 (List.replicate r 0) := WaJ.start f d r
  obtain ⟨nb, no, rfl, -⟩ := hdc1.int 0 (by rw [HLN.out]; omega)
  have HDC1 := Lib.hid hdc1
  clear hz hB0 hb3 ho3 hg3 hdc1 HDC
  go_loopw [9, 10, 11] (fun v9 _ _ wr => ∃ (t : Nat) (S : List Nat), t ≤ r ∧ v9 = .int .i64 (t : Int) ∧ PzSt w1 gs S0 S wr ∧ WaJ f d r t 0 0 S) (fun v _ _ _ => r - (intOf v).toNat)
  case atStart => exact ⟨0, _, Nat.zero_le _, rfl, st3, wa3⟩
  case round =>
    clear st3 wa3
    obtain ⟨t, S, ht, rfl, hst, hwa⟩ := hrel
    by_cases htr : t < r
    · go_wp2
      go_loopw [10, 11] (fun v10 _ wr => ∃ (a : Nat) (S : List Nat), a ≤ r ∧ v10 = .int .i64 (a : Int) ∧ PzSt w1 gs S0 S wr ∧ WaJ f d r t a 0 S) (fun v _ _ => r - (intOf v).toNat)
      case atStart => exact ⟨0, S, Nat.zero_le _, rfl, hst, hwa⟩
      case round =>
        clear hst hwa
        obtain ⟨a, S, ha, rfl, hst, hwa⟩ := hrel
        by_cases har : a < r
        · go_wp2
          go_loopw [11] (fun v11 wr => ∃ (j : Nat) (S : List Nat), j ≤ r ∧ v11 = .int .i64 (j : Int) ∧ PzSt w1 gs S0 S wr ∧ WaJ f d r t a j S) (fun v _ => r - (intOf v).toNat)
          case atStart => exact ⟨0, S, Nat.zero_le _, rfl, hst, hwa⟩
          case round =>
            clear hst hwa
            obtain ⟨j, S, hj, rfl, hst, hwa⟩ := hrel
            by_cases hjr : j < r
            · have hl := hwa.len
              have c1 := (hst.1.cell a).trans (HCEL.out a har)
              have t1 := HBIT.out a j har
              have hari : (a : Int) < (r : Int) := by omega
              have hjri : (j : Int) < (r : Int) := by omega
              generalize S0.getD a 0 = z at *
              cases hf : f a j
              · rw [hf] at t1
                have hw2 := hwa.skip hf
                clear hwa
                go_wp2
                go_roundw
                case rel => exact ⟨j + 1, S, by omega, by go_num, hst, hw2⟩
                case measure => simp [intOf]; omega
              · rw [hf] at t1
                have kj := (hst.2.1.cell j).trans (setsV_at (S := S) (by rw [hl]; exact hjr))
                have ka := (hst.2.1.cell a).trans (setsV_at (S := S) (by rw [hl]; exact har))
                have fj := hst.2.1.frozen j
                have hu1 := Nat.le_trans (hwa.up j hjr) (HUP.out j hjr)
                have hu2 := Nat.le_trans (hwa.up a har) (HUP.out a har)
                obtain ⟨hda, hd1, hd9⟩ := HND.out a har
                obtain ⟨b2, o2, e2, kd⟩ := (HDC1.out.below hst.2.2).int a (by rw [HLN.out]; exact har)
                cases e2
                rw [hda] at kd
                have hw2 := hwa.step HG.out hf
                obtain ⟨mm, hmm⟩ : ∃ mm, mm = max (S.getD j 0) (S.getD a 0 + d a) := ⟨_, rfl⟩
                rw [← hmm] at hw2
                have hst3 := hst.put hgn j mm rfl
                obtain ⟨y, hy⟩ : ∃ y, y = S.getD j 0 := ⟨_, rfl⟩
                obtain ⟨x, hx⟩ : ∃ x, x = S.getD a 0 := ⟨_, rfl⟩
                rw [← hy] at kj hmm hu1
                rw [← hx] at ka hmm hu2
                have HMX := Lib.hid (show (if (y : Int) < (x : Int) + (d a : Int) then (x : Int) + (d a : Int) else (y : Int)) = (mm : Int) by rw [max_sumS, hmm])
                have HS3 := Lib.hid hst3
                clear hst hwa hl hy hx hmm hst3 hda
                generalize d a = e at *
                go_wp2
                go_region
                rw [HMX.out]
                go_wp2
                go_roundw
                case rel => exact ⟨j + 1, _, by omega, by go_num, HS3.out.drew, hw2⟩
                case measure => simp [intOf]; omega
            · obtain rfl : j = r := by omega
              have hw2 := hwa.row
              clear hwa
              go_wp2
              go_roundw
              case rel => exact ⟨a + 1, S, by omega, by go_num, hst, hw2⟩
              case measure => simp [intOf]; omega
        · obtain rfl : a = r := by omega
          have hw2 := hwa.round
          clear hwa
          go_wp2
          go_roundw
          case rel => exact ⟨t + 1, S, by omega, by go_num, hst, hw2⟩
          case measure => simp [intOf]; omega
    · obtain rfl : t = r := by omega
      have hd := hwa.done
      subst hd
      go_wp2
      go_ret
      refine ⟨⟨w1.heap.size, hb1.size, ?_, hst.2.1⟩, hb1.trans (hst.2.2.mono hb1.size)⟩
      rw [sumL_len]; rfl

end Go.Proofs.Ytobkbgbkkiiloaa

/-
  The program's drawings: none, and those of a plan with needs. (Walks.)
-/
namespace Go.Proofs.Ytobkbgbkkiiloaa
open Go.RowKit

/-! # a drawing of nothing -/
def noDw : Array Value := dwC (ordC zeroC noF) 0 (.slice none 0 0)
theorem zeroO_size : (ordC zeroC noF).size = 201 := ordC_size (planC_size 0 0 0 (fun _ _ => 0)) noF
theorem noDw_size : noDw.size = 203 := dwC_size zeroO_size _ _
theorem noDw_info : (Try.prog.info? 44).map (·.size) = some noDw.size := by rw [noDw_size]; kernel_rfl
theorem noDw_2 : noDw[2]? = some (.int .i64 ((0 : Nat) : Int)) := by
  unfold noDw
  rw [dwC_lo (by rw [zeroO_size]; omega), ordC_lo noF (by rw [show zeroC.size = 39 from planC_size 0 0 0 (fun _ _ => 0)]; omega)]
  rfl
theorem noDw_n : noDw[202]? = some (.slice none 0 0) := dwC_needs zeroO_size _ _
set_option maxRecDepth 100000 in
theorem noDw_one : noDw.all (·.oneCell') = true := by kernel_rfl
set_option maxRecDepth 100000 in
theorem noDw_lit : noDw = #[.int .i64 0, .int .i64 0, .int .i64 0, .int .i64 0, .int .i64 0, .int .i64 0, .int .i64 0, .int .i64 0, .int .i64 0, .int .i64 0, .int .i64 0, .int .i64 0, .int .i64 0, .int .i64 0, .int .i64 0, .int .i64 0, .int .i64 0, .int .i64 0, .int .i64 0, .int .i64 0, .int .i64 0, .int .i64 0, .int .i64 0, .int .i64 0, .int .i64 0, .int .i64 0, .int .i64 0, .int .i64 0, .int .i64 0, .int .i64 0, .int .i64 0, .int .i64 0, .int .i64 0, .int .i64 0, .int .i64 0, .int .i64 0, .int .i64 0, .int .i64 0, .int .i64 0, .bool false, .bool false, .bool false, .bool false, .bool false, .bool false, .bool false, .bool false, .bool false, .bool false, .bool false, .bool false, .bool false, .bool false, .bool false, .bool false, .bool false, .bool false, .bool false, .bool false, .bool false, .bool false, .bool false, .bool false, .bool false, .bool false, .bool false, .bool false, .bool false, .bool false, .bool false, .bool false, .bool false, .bool false, .bool false, .bool false, .bool false, .bool false, .bool false, .bool false, .bool false, .bool false, .bool false, .bool false, .bool false, .bool false, .bool false, .bool false, .bool false, .bool false, .bool false, .bool false, .bool false, .bool false, .bool false, .bool false, .bool false, .bool false, .bool false, .bool false, .bool false, .bool false, .bool false, .bool false, .bool false, .bool false, .bool false, .bool false, .bool false, .bool false, .bool false, .bool false, .bool false, .bool false, .bool false, .bool false, .bool false, .bool false, .bool false, .bool false, .bool false, .bool false, .bool false, .bool false, .bool false, .bool false, .bool false, .bool false, .bool false, .bool false, .bool false, .bool false, .bool false, .bool false, .bool false, .bool false, .bool false, .bool false, .bool false, .bool false, .bool false, .bool false, .bool false, .bool false, .bool false, .bool false, .bool false, .bool false, .bool false, .bool false, .bool false, .bool false, .bool false, .bool false, .bool false, .bool false, .bool false, .bool false, .bool false, .bool false, .bool false, .bool false, .bool false, .bool false, .bool false, .bool false, .bool false, .bool false, .bool false, .bool false, .bool false, .bool false, .bool false, .bool false, .bool false, .bool false, .bool false, .bool false, .bool false, .bool false, .bool false, .bool false, .bool false, .bool false, .bool false, .bool false, .bool false, .bool false, .bool false, .bool false, .bool false, .bool false, .bool false, .bool false, .bool false, .bool false, .bool false, .bool false, .bool false, .bool false, .bool false, .bool false, .int .i64 0, .slice none 0 0] := by kernel_rfl
set_option maxRecDepth 100000 in
theorem noDw_zero (w : World) : (zeroValue 44).run Try.prog w = .ok (.agg noDw) w := by
  rw [noDw_lit]; exact Try.zeroValue44 w
set_option maxRecDepth 100000 in
theorem noDw_built : Try.prog.built 44 [] = some noDw := by kernel_rfl
set_option maxRecDepth 100000 in
theorem built_dw (h wd r : Nat) (gg : Nat → Nat → Nat) (F : Nat → Nat → Nat → Bool) (way : Int) (ao : Option Addr) (n c : Nat) : Try.prog.built 44 [(0, .agg (ordC (planC h wd r gg) F)), (1, .int .i64 way), (2, .slice ao n c)] = some (dwC (ordC (planC h wd r gg) F) way (.slice ao n c)) := by kernel_rfl

set_option maxRecDepth 100000 in
theorem insertionNil_any (fv : Value) (w : World) :
    Calls Try.prog 70 #[.slice none 0 0, .int .i64 0, .int .i64 0, fv] w fun e w' => e = .returned (.tuple #[]) ∧ w' = w := by
  go_enter Try.func70, Try.ntmps70
  go_wp2
  refine wp_loop_rounds 1 ?_
  rw [rounds_succ]
  go_wp2
  exact bodyPost_end (v := .tuple #[]) (by simp [results, Try.results70, go_sem]) rfl ⟨rfl, rfl⟩
set_option maxRecDepth 100000 in
theorem pdqNil_any (lim : Int) (fv : Value) (w : World) :
    Calls Try.prog 47 #[.slice none 0 0, .int .i64 0, .int .i64 0, .int .i64 lim, fv] w fun e w' => e = .returned (.tuple #[]) ∧ w' = w := by
  go_enter Try.func47, Try.ntmps47
  go_wp2
  refine wp_loop_rounds 1 ?_
  rw [rounds_succ]
  go_wp2_with (go_at_call 70; refine (insertionNil_any _ _).mono ?_; rintro e w1 ⟨rfl, rfl⟩)
  exact bodyPost_ret (results_none rfl _ _ _) rfl ⟨rfl, rfl⟩
set_option maxRecDepth 100000 in
theorem sortNil_any (fv : Value) (w : World) :
    Calls Try.prog 33 #[.slice none 0 0, fv] w fun e w' => e = .returned (.tuple #[]) ∧ w' = w := by
  have HL := Lib.hid (fun w => len_any 0 (by omega) w)
  go_enter Try.func33, Try.ntmps33
  go_wp2_with (first
    | (go_at_call 48; refine (HL.out _).mono ?_; rintro e w' ⟨⟨l, rfl⟩, rfl⟩)
    | (go_at_call 47; refine (pdqNil_any _ _ _).mono ?_; rintro e w1 ⟨rfl, rfl⟩))
  go_end0
  exact ⟨rfl, rfl⟩
set_option maxRecDepth 100000 in
theorem cloneNil_any (w : World) :
    Calls Try.prog 32 #[.slice none 0 0] w fun e w' => e = .returned (.slice none 0 0) ∧ w' = w := by
  have hnil : ∀ W, (binOp .eql 42 (.slice none 0 0) (.slice none 0 0)).run Try.prog W = .ok (.bool true) W := fun W => Lib.run_eql_slice_nil_nil W _ _ Try.underlying42
  go_enter Try.func32, Try.ntmps32
  go_wp2
  go_ret
  exact ⟨rfl, rfl⟩
set_option maxRecDepth 100000 in
set_option maxHeartbeats 4000000 in
theorem aheadNil_any (fv : Value) (w : World) :
    Calls Try.prog 23 #[.agg noDw, fv] w fun e w' => PlRet w.heap.size [] e w' ∧ Below w.heap.size w w' := by
  have hB := HeldB.new w 44 noDw
  have c2 := (hB.cell 2).trans noDw_2
  have HKN := Lib.hid noDw_n
  have HB := Lib.hid hB
  have HB0 := Lib.hid (below_alloc w (.cells noDw 44))
  clear hB
  generalize noDw = D at *
  obtain ⟨im, hmi, hmz, hm1, hm2⟩ := info_parts Try.infoNum
  go_enter Try.func23, Try.ntmps23
  go_wp2_with (first
    | (at_make; refine wpList_make_full _ rfl _ _ 24 rfl (w.heap.size + 1) 3 im (.int .i64 0) 1 Try.underlying24 hmi hmz hm1 .i64 .i64 _ _ 0 rfl rfl rfl rfl ?d2 ?d3 (by simp) ?_; rotate_left 2; intro w2 ho2 hg2; have bD2 := HB.out.kept hg2 (by simp); have kN2 := (bD2.cell 202).trans HKN.out)
    | (go_at_call 32; refine (cloneNil_any _).mono ?_; rintro e w3 ⟨rfl, rfl⟩)
    | (go_at_call 33; refine (sortNil_any _ _).mono ?_; rintro e w4 ⟨rfl, rfl⟩))
  case d2 => rw [hm2]; omega
  case d3 => unfold maxLen; omega
  have hz2 := held_zeros ho2
  simp only [World.size_alloc] at hz2
  have hb2 := HB0.out.trans ((below_of_grownBy hg2 (Nat.le_refl _) (by simp)).mono (by simp))
  clear ho2 hg2 bD2 kN2 c2
  refine wp_loop_rounds 1 ?_
  rw [rounds_succ]
  go_wp2
  go_ret
  exact ⟨⟨w.heap.size + 1, by omega, rfl, hz2⟩, hb2⟩
set_option maxRecDepth 100000 in
set_option maxHeartbeats 4000000 in
theorem leastNil_any (w : World) :
    Calls Try.prog 13 #[.agg noDw] w fun e w' => e = .returned (.int .i64 ((0 : Nat) : Int)) ∧ Below w.heap.size w w' := by
  have HAH := Lib.hid (fun fv w => aheadNil_any fv w)
  have hB := HeldB.new w 44 noDw
  have HKN := Lib.hid noDw_n
  have HSZ := Lib.hid noDw_info
  have hb0 := below_alloc w (.cells noDw 44)
  generalize noDw = D at *
  have hW1 : (w.alloc (.cells D 44)).heap[w.heap.size]? = some (.cells D 44 (0, 0)) := hB
  go_enter Try.func13, Try.ntmps13
  go_wp2_with (first
    | (refine wpList_load_row rfl 44 _ rfl w.heap.size rfl 44 D (0, 0) _ hW1 Try.underlying44 rfl HSZ.out ?_)
    | (go_at_call 23; refine (HAH.out _ _).mono ?_; rintro e w2 ⟨⟨gA, hgA, rfl, hA⟩, hb2⟩; have bD2 := hB.below hb2; have kN2 := (bD2.cell 202).trans HKN.out; clear HAH))
  refine wp_loop_rounds 1 ?_
  rw [rounds_succ]
  go_wp2
  go_ret
  exact ⟨rfl, below_step hb0 hb0.size hb2⟩

end Go.Proofs.Ytobkbgbkkiiloaa

/-
  Merged texts: SizD SizE SizT.
-/
/-
  The program's drawing of a plan with a list of needs. (Walks.)
-/
namespace Go.Proofs.Ytobkbgbkkiiloaa
open Go.RowKit

theorem ndL_succ (d : Nat → Nat) (i : Nat) : ndL d (List.range (i + 1)) = ndL d (List.range i) ++ (nd1 d i).toList := by
  have h1 := ndC_put (d := d) (L := List.range (i + 1)) (i := i) (by simp) i
  apply List.ext_getElem?
  intro k
  have e1 : ∀ n k, k < 2 * n → (ndL d (List.range n))[k]? = some (.int .i64 (((if k % 2 = 0 then k / 2 else d (k / 2)) : Nat) : Int)) := fun n k hk => by
    have := ndC_at (d := d) (L := List.range n) (k := k) (by rw [List.length_range]; exact hk)
    unfold ndC at this
    rw [List.getElem?_toArray, range_at (by omega)] at this
    exact this
  by_cases hk : k < 2 * i
  · rw [e1 _ _ (by omega), List.getElem?_append_left (by rw [ndL_len, List.length_range]; exact hk), e1 _ _ hk]
  · rw [List.getElem?_append_right (by rw [ndL_len, List.length_range]; omega), ndL_len, List.length_range]
    by_cases hk2 : k < 2 * (i + 1)
    · rw [e1 _ _ hk2]
      have hc : k = 2 * i ∨ k = 2 * i + 1 := by omega
      rcases hc with rfl | rfl
      · rw [if_pos (by omega), Nat.sub_self, show 2 * i / 2 = i by omega]; rfl
      · rw [if_neg (by omega), show 2 * i + 1 - 2 * i = 1 by omega, show (2 * i + 1) / 2 = i by omega]; rfl
    · rw [List.getElem?_eq_none (by rw [ndL_len, List.length_range]; omega), List.getElem?_eq_none (by simp [nd1]; omega)]
/-- what is told of a drawing -/
def DwRet (base : Nat) (O : Array Value) (way : Int) (r : Nat) (l : List Int) (b : Bool) (e : Ending) (w' : World) : Prop :=
  ∃ D, e = .returned (.tuple #[.agg D, .bool b]) ∧ (b = false → D = noDw) ∧ (b = true → ∃ gn cn, D = dwC O way (.slice (some ⟨gn, 0, none⟩) r cn) ∧ base ≤ gn ∧ CellsAt w' (some ⟨gn, 0, none⟩) (ndL (dN l) (List.range r)))
theorem results_dw {fn : Func} {p u : Tmp} (h : fn.results = #[.cell p 44, .tmp u]) {tmps : Array Value} {w : World} {B : Nat} {C : Array Value} {v : Value}
    (hp : tmps.getD p undef = .pointer (some ⟨B, 0, none⟩)) (hB : HeldB w B 44 C) (hs : C.size = 203) (hv : tmps.getD u undef = v) :
    (results fn tmps).run Try.prog w = .ok (.tuple #[.agg C, v]) w := by
  rw [results_cell_tmp h, hp, hv]
  have hr := run_loadVar_row (P := Try.prog) w B 44 44 C (0, 0) _ hB Try.underlying44 rfl (by rw [hs]; kernel_rfl)
  simp [asAddr, hr, Result.andThen]
theorem nd1_ones (x y : Int) : ∀ v ∈ [Value.int .i64 x, .int .i64 y], v.oneCell' = true := fun v hv => by
  simp only [List.mem_cons, List.not_mem_nil, or_false] at hv
  rcases hv with rfl | rfl <;> rfl
set_option maxRecDepth 100000 in
set_option maxHeartbeats 8000000 in
theorem drawing_any (h wd r : Nat) (gg : Nat → Nat → Nat) (F : Nat → Nat → Nat → Bool) (way : Int) (bo : Option Addr) (cb : Nat) (l : List Int) (w : World) (hr : r ≤ 9) (hr1 : 1 ≤ r) (hl : l.length ≤ 1048576) (hd : CellsAt w bo (l.map (Value.int .i64))) :
    Calls Try.prog 22 #[.agg (ordC (planC h wd r gg) F), .int .i64 way, .slice bo l.length cb] w
      fun e w' => DwRet w.heap.size (ordC (planC h wd r gg) F) way r l (decide (l.length = r) && needB l) e w' ∧ Below w.heap.size w w' := by
  have hC := planC_size h wd r gg
  have hO := ordC_size hC F
  have HO2 := Lib.hid (show (ordC (planC h wd r gg) F)[2]? = some (.int .i64 (r : Nat)) by rw [ordC_lo F (by rw [planC_size]; omega), planC_2])
  have HBD := Lib.hid (fun ao n c => built_dw h wd r gg F way ao n c)
  have HDS := Lib.hid (fun v => dwC_size hO way v)
  have HDI := Lib.hid (fun v => dw_info hO way v)
  have HO1 := Lib.hid (show ∀ ao n c, (dwC (ordC (planC h wd r gg) F) way (.slice ao n c)).all (·.oneCell') = true from fun ao n c => by
    rw [Array.all_eq_true_iff_forall_mem]
    intro v hv
    unfold dwC at hv
    rw [Array.mem_append] at hv
    rcases hv with hv | hv
    · exact Array.all_eq_true_iff_forall_mem.1 (ordC_one (planC_one h wd r gg) F) v hv
    · simp only [List.mem_toArray, List.mem_cons, List.not_mem_nil, or_false] at hv
      rcases hv with rfl | rfl <;> rfl)
  have HOI := Lib.hid (show (Try.prog.info? 41).map (·.size) = some (ordC (planC h wd r gg) F).size by rw [hO]; kernel_rfl)
  have HZ := Lib.hid noDw_zero; have HZB := Lib.hid noDw_built; have HZ1 := Lib.hid noDw_one; have HZI := Lib.hid noDw_info; have HZS := Lib.hid noDw_size
  have hDW : ∀ v, dwC (ordC (planC h wd r gg) F) way v = dwC (ordC (planC h wd r gg) F) way v := fun _ => rfl
  clear hC hO hDW
  generalize hOO : ordC (planC h wd r gg) F = O at *
  clear hOO
  have bO := HeldB.new w 41 O
  have bO1 := bO.alloc (.cells noDw 44)
  have bZ1 := HeldB.new (w.alloc (.cells O 41)) 44 noDw
  simp only [World.size_alloc] at bZ1
  have hb1 : Below w.heap.size w ((w.alloc (.cells O 41)).alloc (.cells noDw 44)) := ((Below.refl _ w).alloc (Nat.le_refl _) _).alloc (by simp) _
  have cO2 := (bO1.cell 2).trans HO2.out
  clear bO
  unfold DwRet
  generalize noDw = Z at *
  by_cases hlr : l.length = r
  · have HN := Lib.hid (fun i (hi : i < l.length) => needB_take (l := l) hi)
    have HST := Lib.hid (fun i (hi : i < l.length) h => needB_stop (l := l) (i := i) hi h)
    have heq : ((l.length : Int) == (r : Int)) = true := by rw [beq_iff_eq]; omega
    rw [decide_eq_true hlr, Bool.true_and]
    have HLR := Lib.hid hlr; clear hlr
    have HLL := Lib.hid (show l.take r = l from List.take_of_length_le (by rw [HLR.out]; exact Nat.le_refl _))
    have hN0 : needB (l.take 0) = true := rfl
    generalize hll : l.length = ll at *
    obtain rfl : ll = r := HLR.out
    have HLE := Lib.hid hll; clear hll HLR
    obtain ⟨im, hmi, hmz, hm1, hm2⟩ := info_parts Try.infoNd
    have HD := Lib.hid hd; clear hd
    go_enter Try.func22, Try.ntmps22
    go_wp2_with (first
      | (refine wpList_alloc_zero rfl 44 rfl Z HZ.out ?_)
      | (at_make; refine wpList_make_own _ rfl _ _ 42 rfl (w.heap.size + 2) 62 im (.agg #[.int .i64 0, .int .i64 0]) 2 Try.underlying42 hmi hmz hm1 .i64 .i64 _ ll rfl rfl rfl ?c2 ?c3 (by simp) ?_; rotate_left 2; intro w2 hown hg2))
    case c2 => rw [hm2]; omega
    case c3 => unfold maxLen; omega
    have bO2 := bO1.kept hg2 (by simp)
    have bZ2 := bZ1.kept hg2 (by simp)
    have hB2 := hb1.trans ((below_of_grownBy hg2 (Nat.le_refl _) (by simp)).mono (by simp; omega))
    have hown2 : w2.ownsRow (w.heap.size + 2) 62 2 (.slice (some ⟨w.heap.size + 1 + 1, 0, none⟩) 0 ll) 0 (ndL (dN l) (List.range 0)) := by simpa [ndL] using hown
    clear hown hg2 bO1 bZ1 hb1 cO2
    go_loopw [8, 23] (fun v8 vi wr => ∃ (i : Nat) (ao : Option Addr) (c : Nat), i ≤ ll ∧ vi = .int .i64 (i : Int) ∧ v8 = .slice ao i c ∧ wr.ownsRow (w.heap.size + 2) 62 2 (.slice ao i c) i (ndL (dN l) (List.range i)) ∧ HeldB wr w.heap.size 41 O ∧ HeldB wr (w.heap.size + 1) 44 Z ∧ Below w.heap.size w wr ∧ needB (l.take i) = true) (fun _ vi _ => ll - (intOf vi).toNat)
    case atStart => exact ⟨0, _, _, Nat.zero_le _, rfl, rfl, hown2, bO2, bZ2, hB2, hN0⟩
    case round =>
      clear hown2 bO2 bZ2 hB2 hN0
      obtain ⟨i, ao, c, hi, rfl, rfl, hown, bO, bZ, hB, hnd⟩ := hrel
      by_cases hir : i < ll
      · obtain ⟨b, off, rfl, hcell⟩ := (HD.out.below hB).int i (by rw [HLE.out]; exact hir)
        have hn1 := HN.out i hir
        have hs1 := HST.out i hir
        rw [hnd, Bool.true_and] at hn1
        have hirI : (i : Int) < (ll : Int) := by omega
        have hdx : dN l i = (l.getD i 0).toNat := rfl
        generalize l.getD i 0 = x at *
        by_cases hx1 : 1 ≤ x
        · by_cases hx9 : x ≤ 9
          · rw [decide_eq_true hx1, decide_eq_true hx9] at hn1
            have hxd : x = ((dN l i : Nat) : Int) := by omega
            have HS := Lib.hid (ndL_succ (dN l) i)
            have HNN := Lib.hid hn1
            have HXD := Lib.hid hxd
            have h63 : i + 1 ≤ maxLen := by unfold maxLen; omega
            have hx0 : ¬ x < 1 := by omega
            have hx99 : ¬ 9 < x := by omega
            have hBs := hB.size
            have hZl := bZ.lt
            have hnx : w.heap.size + 2 ≤ wr.heap.size := by omega
            clear hxd hdx hn1 hs1 hnd
            go_wp2_with (at_builtin; refine wpList_pushK _ rfl _ _ 42 rfl (w.heap.size + 2) 62 im (.agg #[.int .i64 0, .int .i64 0]) 2 16 Try.underlying42 hmi hmz hm1 hm2 rfl (by decide) ao i c _ rfl (ownsRow_below hown (below_alloc _ _)) (#[Value.int .i64 (i : Int), .int .i64 x] : Array Value).toList 1 _ 0 1 rfl (by decide) rfl (cells_new _ _ _) (nd1_ones _ _) h63 (by omega) (by simp; omega) ?_; intro ao2 cap2 w3 hown3 hg3 hnew3)
            rw [HXD.out] at hown3
            go_roundw
            case rel => exact ⟨i + 1, ao2, cap2, by omega, by go_num, rfl, by rw [HS.out]; exact hown3, kept_own (bO.alloc _) hg3 (fun a ha => by have := (owns_lt hown a ha).1; omega), kept_own (bZ.alloc _) hg3 (fun a ha => by have := (owns_lt hown a ha).1; omega), below_push hB hBs hg3 (fun a ha => by have := (owns_lt hown a ha).1; omega), HNN.out⟩
            case measure => simp [intOf]; omega
          · have hx0 : ¬ x < 1 := by omega
            have hx99 : 9 < x := by omega
            have hnf := hs1 (by rw [decide_eq_false hx9]; exact Bool.and_false _)
            have HNF := Lib.hid hnf
            clear hnf hs1 hn1 hnd hdx hown
            go_wp2_with (first
              | (refine wpList_build_as rfl 44 _ rfl Z (by simp only [List.map_toArray, List.map_nil]; exact HZB.out) ?_)
              | (refine wpList_store_row rfl 44 _ _ rfl (w.heap.size + 1) Z rfl rfl 44 Z bZ HZI.out rfl HZ1.out ?_))
            exact bodyPost_ret (results_dw rfl rfl (bZ.setRow Z) HZS.out rfl) rfl ⟨⟨Z, by rw [HNF.out]; rfl, fun _ => rfl, fun h => by rw [HNF.out] at h; cases h⟩, below_setRowB hB (by omega) _⟩
        · have hx0 : x < 1 := by omega
          have hnf := hs1 (by rw [decide_eq_false hx1]; rfl)
          have HNF := Lib.hid hnf
          clear hnf hs1 hn1 hnd hdx hown
          go_wp2_with (first
            | (refine wpList_build_as rfl 44 _ rfl Z (by simp only [List.map_toArray, List.map_nil]; exact HZB.out) ?_)
            | (refine wpList_store_row rfl 44 _ _ rfl (w.heap.size + 1) Z rfl rfl 44 Z bZ HZI.out rfl HZ1.out ?_))
          exact bodyPost_ret (results_dw rfl rfl (bZ.setRow Z) HZS.out rfl) rfl ⟨⟨Z, by rw [HNF.out]; rfl, fun _ => rfl, fun h => by rw [HNF.out] at h; cases h⟩, below_setRowB hB (by omega) _⟩
      · obtain rfl : i = ll := by omega
        have hyes : needB l = true := by rw [← HLL.out]; exact hnd
        have HY := Lib.hid hyes
        obtain ⟨g, X, rfl, hg, hgc, hX⟩ := owns_ndX hown hr1
        clear hown hyes hnd
        go_wp2_with (first
          | (refine wpList_load_row rfl 41 _ rfl w.heap.size rfl 41 O (0, 0) _ bO Try.underlying41 rfl HOI.out ?_)
          | (refine wpList_build_as rfl 44 _ rfl (dwC O way (.slice (some ⟨g, 0, none⟩) i c)) (by simp only [List.map_toArray, List.map_cons, List.map_nil]; exact HBD.out _ _ _) ?_)
          | (refine wpList_store_row rfl 44 _ _ rfl (w.heap.size + 1) (dwC O way (.slice (some ⟨g, 0, none⟩) i c)) rfl rfl 44 Z bZ (HDI.out _) (by rw [HZS.out, HDS.out]) (HO1.out _ _ _) ?_))
        exact bodyPost_ret (results_dw rfl rfl (bZ.setRow _) (HDS.out _) rfl) rfl ⟨⟨_, by rw [HY.out]; rfl, fun h => (by rw [HY.out] at h; cases h), fun _ => ⟨g, c, rfl, by omega, ndX_cells (hX.otherRow (by omega) _)⟩⟩, below_setRowB hB (by omega) _⟩
  · rw [decide_eq_false hlr, Bool.false_and]
    have hne : ((l.length : Int) == (r : Int)) = false := by rw [beq_eq_false_iff_ne]; omega
    have HLR := Lib.hid hlr; clear hlr
    go_enter Try.func22, Try.ntmps22
    go_wp2_with (first
      | (refine wpList_alloc_zero rfl 44 rfl Z HZ.out ?_)
      | (refine wpList_build_as rfl 44 _ rfl Z (by simp only [List.map_toArray, List.map_nil]; exact HZB.out) ?_)
      | (refine wpList_store_row rfl 44 _ _ rfl (w.heap.size + 1) Z rfl rfl 44 Z bZ1 HZI.out rfl HZ1.out ?_))
    refine bodyPost_ret (results_dw rfl rfl (bZ1.setRow Z) HZS.out rfl) rfl ⟨⟨Z, rfl, fun _ => rfl, fun h => by cases h⟩, ?_⟩
    exact below_setRowB hb1 (by omega) _

theorem cells_setRow {W : World} {g B : Nat} {xs : List Value} (h : CellsAt W (some ⟨g, 0, none⟩) xs) (hne : g ≠ B) (cs : Array Value) : CellsAt (W.setRow B cs) (some ⟨g, 0, none⟩) xs := fun i u hu => by
  obtain ⟨b, off, e, hc⟩ := h i u hu
  cases e
  refine ⟨g, 0, rfl, ?_⟩
  unfold World.cell? at hc ⊢
  rw [setRow_other W B g cs hne]
  exact hc
theorem sizedB_is {p : List ByteArray} {l : List Int} (h : plainB p = true) : sizedB p l = (decide (l.length = gridR p) && needB l) := by unfold sizedB; rw [h, Bool.true_and]
theorem DwRet.below {base : Nat} {O : Array Value} {way : Int} {r : Nat} {l : List Int} {b : Bool} {e : Ending} {w w' : World} (h : DwRet base O way r l b e w) (hb : Below w.heap.size w w') : DwRet base O way r l b e w' := by
  obtain ⟨D, h1, h2, h3⟩ := h
  exact ⟨D, h1, h2, fun hh => by obtain ⟨gn, cn, h4, h6, h5⟩ := h3 hh; exact ⟨gn, cn, h4, h6, h5.below hb⟩⟩
set_option maxRecDepth 100000 in
set_option maxHeartbeats 8000000 in
theorem readDrawing_any (ao bo : Option Addr) (ca cb : Nat) (p : List ByteArray) (way : Int) (l : List Int) (w : World) (hl : p.length ≤ 1048576) (hs : ∀ s ∈ p, s.size ≤ 1048576) (hll : l.length ≤ 1048576)
    (hc : CellsAt w ao (p.map Value.string)) (hd : CellsAt w bo (l.map (Value.int .i64))) :
    Calls Try.prog 12 #[.slice ao p.length ca, .int .i64 way, .slice bo l.length cb] w
      fun e w' => DwRet w.heap.size (ordP p) way (gridR p) l (sizedB p l) e w' ∧ Below w.heap.size w w' := by
  have HRO := Lib.hid (fun w hc => readOrder_any ao ca p w hl hs hc)
  have HZ := Lib.hid noDw_zero; have HZB := Lib.hid noDw_built; have HZ1 := Lib.hid noDw_one; have HZI := Lib.hid noDw_info; have HZS := Lib.hid noDw_size
  have HO0 := Lib.hid zero_ordC
  have HOS := Lib.hid (ordP_size p); have HOI := Lib.hid (ordP_info p); have HO1 := Lib.hid (ordP_one p)
  have HOZ := Lib.hid zeroO_size
  have hb0 := below_alloc w (.cells noDw 44)
  have bZ0 := HeldB.new w 44 noDw
  cases hp : plainB p
  · have hsz : sizedB p l = false := by unfold sizedB; rw [hp]; rfl
    rw [hsz]
    rw [hp] at HRO
    unfold DwRet
    generalize noDw = Z at *
    generalize ordP p = O at *
    generalize ordC zeroC noF = ZO at *
    clear hp hsz
    have HC := Lib.hid (hc.below hb0)
    clear hc
    go_enter Try.func12, Try.ntmps12
    go_wp2_with (first
      | (refine wpList_alloc_zero rfl 44 rfl Z HZ.out ?_)
      | (refine wpList_alloc_zero rfl 41 rfl ZO HO0.out ?_)
      | (refine wpList_store_new rfl 41 _ _ rfl _ ZO O rfl rfl rfl HOI.out (by rw [HOS.out, HOZ.out]) HO1.out ?_)
      | (refine wpList_build_as rfl 44 _ rfl Z (by simp only [List.map_toArray, List.map_nil]; exact HZB.out) ?_)
      | (refine wpList_store_row rfl 44 _ _ rfl w.heap.size Z rfl rfl 44 Z bZ1 HZI.out rfl HZ1.out ?_)
      | (go_at_call 21; refine (HRO.out _ HC.out).mono ?_; rintro e w1 ⟨rfl, hb1⟩; have bZ1 := (bZ0.below hb1).alloc (.cells O 41); have hb2 := below_step hb0 hb0.size hb1; have hb3 := hb2.alloc hb2.size (.cells O 41)))
    exact bodyPost_ret (results_dw rfl rfl (bZ1.setRow Z) HZS.out rfl) rfl ⟨⟨Z, rfl, fun _ => rfl, fun h => by cases h⟩, below_setRowB hb3 (Nat.le_refl _) _⟩
  · have hr9 := (planP_of (plainB_plan hp)).few
    have hr1 : 1 ≤ gridR p := by
      have hP := planP_of (plainB_plan hp)
      have h := gridG_lt (p := p) (i := 0) (j := 0) (by have := hP.grid.h1; omega) (by have := hP.grid.w1; omega)
      omega
    have hoy := ordP_yes hp
    have HDR := Lib.hid (fun (w : World) hd => drawing_any p.length (wideB p) (gridR p) (gridG p) (ledF p.length (wideB p) (gridR p) (gridG p)) way bo cb l w hr9 hr1 hll hd)
    rw [← hoy, ← sizedB_is hp] at HDR
    have HDN := Lib.hid (show ∀ D : Array Value, (sizedB p l = false → D = noDw) → (sizedB p l = true → ∃ gn cn, D = dwC (ordP p) way (.slice (some ⟨gn, 0, none⟩) (gridR p) cn) ∧ True) → D.size = 203 ∧ (Try.prog.info? 44).map (·.size) = some D.size ∧ D.all (·.oneCell') = true from fun D h1 h2 => by
      cases hz : sizedB p l
      · rw [h1 hz]; exact ⟨noDw_size, noDw_info, noDw_one⟩
      · obtain ⟨gn, cn, rfl, _⟩ := h2 hz
        refine ⟨dwC_size (ordP_size p) _ _, dw_info (ordP_size p) _ _, ?_⟩
        rw [Array.all_eq_true_iff_forall_mem]
        intro v hv
        unfold dwC at hv
        rw [Array.mem_append] at hv
        rcases hv with hv | hv
        · exact Array.all_eq_true_iff_forall_mem.1 (ordP_one p) v hv
        · simp only [List.mem_toArray, List.mem_cons, List.not_mem_nil, or_false] at hv
          rcases hv with rfl | rfl <;> rfl)
    rw [hp] at HRO
    clear hoy hp hr9 hr1
    unfold DwRet at HDR ⊢
    generalize noDw = Z at *
    generalize ordP p = O at *
    generalize ordC zeroC noF = ZO at *
    generalize sizedB p l = sb at *
    generalize gridR p = r at *
    have HC := Lib.hid (hc.below hb0)
    have HD := Lib.hid (hd.below hb0)
    clear hc hd
    go_enter Try.func12, Try.ntmps12
    go_wp2_with (first
      | (refine wpList_alloc_zero rfl 44 rfl Z HZ.out ?_)
      | (refine wpList_alloc_zero rfl 41 rfl ZO HO0.out ?_)
      | (refine wpList_store_new rfl 41 _ _ rfl _ ZO O rfl rfl rfl HOI.out (by rw [HOS.out, HOZ.out]) HO1.out ?_)
      | (refine wpList_load_row rfl 41 _ rfl w1.heap.size rfl 41 O (0, 0) _ bO1 Try.underlying41 rfl HOI.out ?_)
      | (refine wpList_store_row rfl 44 _ _ rfl w.heap.size D rfl rfl 44 Z bZ2 hdn.2.1 (by rw [HZS.out]; exact hdn.1.symm) hdn.2.2 ?_)
      | (go_at_call 21; refine (HRO.out _ HC.out).mono ?_; rintro e w1 ⟨rfl, hb1⟩; have bZ1 := (bZ0.below hb1).alloc (.cells O 41); have hb2 := below_step hb0 hb0.size hb1; have hb3 := hb2.alloc hb2.size (.cells O 41); have bO1 := HeldB.new w1 41 O; have hd3 := (HD.out.below hb1).below (below_alloc w1 (.cells O 41)))
      | (go_at_call 22; refine (HDR.out _ hd3).mono ?_; rintro e w4 ⟨⟨D, rfl, hd1, hd2⟩, hb4⟩; have bZ2 := bZ1.below hb4; have hb5 := below_step hb3 hb3.size hb4; have hdn := HDN.out D hd1 (fun h => by obtain ⟨gn, cn, h4, _, h5⟩ := hd2 h; exact ⟨gn, cn, h4, trivial⟩)))
    refine bodyPost_ret (results_dw rfl rfl (bZ2.setRow D) hdn.1 rfl) rfl ⟨⟨D, rfl, hd1, fun h => ?_⟩, below_setRowB hb5 (Nat.le_refl _) _⟩
    obtain ⟨gn, cn, h4, h6, h5⟩ := hd2 h
    have hsz := hb2.size
    simp only [World.size_alloc] at h6
    exact ⟨gn, cn, h4, by omega, cells_setRow h5 (by omega) _⟩

end Go.Proofs.Ytobkbgbkkiiloaa

/-
  The program's least widths and heights, and places. (Walks.)
-/
namespace Go.Proofs.Ytobkbgbkkiiloaa
open Go.RowKit

/-- the least width, or the least height -/
def wideV (p : List ByteArray) (l : List Int) (way : Nat) : Nat := if sizedB p l = true then endS (pL p way) (dN l) (gridR p) else 0
def placesV (p : List ByteArray) (l : List Int) (way : Nat) : List Nat := if sizedB p l = true then sumL (pL p way) (dN l) (gridR p) else []
theorem sized_facts {p : List ByteArray} {l : List Int} (h : sizedB p l = true) : plainB p = true ∧ l.length = gridR p ∧ needB l = true ∧ gridR p ≤ 9 ∧ 1 ≤ gridR p ∧ ∀ a, a < gridR p → dN l a ≤ 9 := by
  obtain ⟨h1, h2, h3⟩ := sizedB_yes h
  have hP := planP_of (plainB_plan h1)
  have hg := gridG_lt (p := p) (i := 0) (j := 0) (by have := hP.grid.h1; omega) (by have := hP.grid.w1; omega)
  exact ⟨h1, h2, h3, hP.few, by omega, fun a ha => (needB_at h3 (by omega)).2.2⟩
theorem dw_any {base : Nat} {p : List ByteArray} {l : List Int} {way : Int} {e : Ending} {w' : World} (h : DwRet base (ordP p) way (gridR p) l (sizedB p l) e w') : ∃ D, e = .returned (.tuple #[.agg D, .bool (sizedB p l)]) ∧ D.size = 203 ∧ D.all (·.oneCell') = true ∧ (sizedB p l = false → D = noDw) ∧ (sizedB p l = true → ∃ gn cn, D = dwC (ordC (planC p.length (wideB p) (gridR p) (gridG p)) (pL p)) way (.slice (some ⟨gn, 0, none⟩) (gridR p) cn) ∧ CellsAt w' (some ⟨gn, 0, none⟩) (ndL (dN l) (List.range (gridR p)))) := by
  obtain ⟨D, h1, h2, h3⟩ := h
  cases hz : sizedB p l
  · rw [hz] at h1
    refine ⟨D, h1, by rw [h2 hz]; exact noDw_size, by rw [h2 hz]; exact noDw_one, fun _ => h2 hz, fun h => by cases h⟩
  · rw [hz] at h1
    obtain ⟨gn, cn, rfl, _, h5⟩ := h3 hz
    refine ⟨_, h1, dwC_size (ordP_size p) _ _, ?_, fun h => (by cases h), fun _ => ⟨gn, cn, ?_, h5⟩⟩
    · rw [Array.all_eq_true_iff_forall_mem]
      intro v hv
      unfold dwC at hv
      rw [Array.mem_append] at hv
      rcases hv with hv | hv
      · exact Array.all_eq_true_iff_forall_mem.1 (ordP_one p) v hv
      · simp only [List.mem_toArray, List.mem_cons, List.not_mem_nil, or_false] at hv
        rcases hv with rfl | rfl <;> rfl
    · rw [ordP_yes (sizedB_yes hz).1]; rfl
set_option maxRecDepth 100000 in
set_option maxHeartbeats 8000000 in
theorem implSizeWide_any (ao bo : Option Addr) (ca cb : Nat) (p : List ByteArray) (l : List Int) (w : World) (hl : p.length ≤ 1048576) (hs : ∀ s ∈ p, s.size ≤ 1048576) (hll : l.length ≤ 1048576)
    (hc : CellsAt w ao (p.map Value.string)) (hd : CellsAt w bo (l.map (Value.int .i64))) :
    Calls Try.prog 7 #[.slice ao p.length ca, .slice bo l.length cb] w fun e w' => e = .returned (.tuple #[.int .i64 ((wideV p l 0 : Nat) : Int), .bool (sizedB p l)]) ∧ Below w.heap.size w w' := by
  have HRD := Lib.hid (fun w hc hd => readDrawing_any ao bo ca cb p ((0 : Nat) : Int) l w hl hs hll hc hd)
  change Hid (∀ w _ _, Calls _ _ #[.slice ao p.length ca, .int .i64 0, .slice bo l.length cb] w _) at HRD
  have HZ := Lib.hid noDw_zero; have HZS := Lib.hid noDw_size
  cases hz : sizedB p l
  · rw [show wideV p l 0 = 0 by unfold wideV; rw [hz]; rfl]
    have HNO := Lib.hid (fun w => leastNil_any w)
    have HSB := Lib.hid hz
    obtain ⟨Z, hZ⟩ : ∃ Z, noDw = Z := ⟨_, rfl⟩
    rw [hZ] at HZ HZS HNO
    go_enter Try.func7, Try.ntmps7
    go_wp2_with fail
    refine (HRD.out _ hc hd).mono ?_
    rintro e w1 ⟨hdr, hb1⟩
    obtain ⟨D, rfl, hs1, hs2, hD0, hD1⟩ := dw_any hdr
    clear hdr
    have hDn := hD0 HSB.out
    rw [hZ] at hDn
    clear hD0 hD1 hZ
    subst hDn
    have hbx := hb1.alloc hb1.size (.cells D 44)
    have bD := HeldB.new w1 44 D
    have HDI := Lib.hid (show (Try.prog.info? 44).map (·.size) = some D.size by rw [hs1]; kernel_rfl)
    have HSD := Lib.hid hs1; have HS1 := Lib.hid hs2
    clear hs1 hs2
    go_wp2_with (first
      | (refine wpList_alloc_zero rfl 44 rfl D HZ.out ?_)
      | (refine wpList_store_new rfl 44 _ _ rfl _ D D rfl rfl rfl HDI.out rfl HS1.out ?_)
      | (refine wpList_load_row rfl 44 _ rfl w1.heap.size rfl 44 D (0, 0) _ bD Try.underlying44 rfl HDI.out ?_)
      | (go_at_call 13; refine (HNO.out _).mono ?_; rintro e w5 ⟨rfl, hb5⟩))
    go_ret2
    exact ⟨rfl, below_step hbx hbx.size hb5⟩
  · obtain ⟨hp, hlen, hnb, hr9, hr1, hdd⟩ := sized_facts hz
    rw [show wideV p l 0 = endS (pL p 0) (dN l) (gridR p) by unfold wideV; rw [hz]; rfl]
    have HYES := Lib.hid (fun gn cn (w : World) hN => least_any p.length (wideB p) (gridR p) (gridG p) (pL p) 0 (by omega) (dN l) gn cn w hr9 hr1 (pL_goes hp (by omega)) hdd hN)
    have HSB := Lib.hid hz
    have HR9 := Lib.hid hr9
    obtain ⟨Z, hZ⟩ : ∃ Z, noDw = Z := ⟨_, rfl⟩
    rw [hZ] at HZ HZS
    clear hp hlen hnb hr9 hr1 hdd
    go_enter Try.func7, Try.ntmps7
    go_wp2_with fail
    refine (HRD.out _ hc hd).mono ?_
    rintro e w1 ⟨hdr, hb1⟩
    obtain ⟨D, rfl, hs1, hs2, hD0, hD1⟩ := dw_any hdr
    clear hdr
    obtain ⟨gn, cn, hDe, hN⟩ := hD1 HSB.out
    have hN3 := hN.below (below_alloc w1 (.cells D 44))
    have hY := HYES.out gn cn
    rw [← hDe] at hY
    have HY := Lib.hid hY
    clear hD0 hD1 hN hY hDe
    clear hZ
    have hbx := hb1.alloc hb1.size (.cells D 44)
    have bD := HeldB.new w1 44 D
    have HDI := Lib.hid (show (Try.prog.info? 44).map (·.size) = some D.size by rw [hs1]; kernel_rfl)
    have HSD := Lib.hid hs1; have HS1 := Lib.hid hs2
    clear hs1 hs2
    go_wp2_with (first
      | (refine wpList_alloc_zero rfl 44 rfl Z HZ.out ?_)
      | (refine wpList_store_new rfl 44 _ _ rfl _ Z D rfl rfl rfl HDI.out (by rw [HSD.out, HZS.out]) HS1.out ?_)
      | (refine wpList_load_row rfl 44 _ rfl w1.heap.size rfl 44 D (0, 0) _ bD Try.underlying44 rfl HDI.out ?_)
      | (go_at_call 13; refine (HY.out _ hN3).mono ?_; rintro e w5 ⟨rfl, hb5⟩))
    go_ret2
    exact ⟨rfl, below_step hbx hbx.size hb5⟩
set_option maxRecDepth 100000 in
set_option maxHeartbeats 8000000 in
theorem implSizeHigh_any (ao bo : Option Addr) (ca cb : Nat) (p : List ByteArray) (l : List Int) (w : World) (hl : p.length ≤ 1048576) (hs : ∀ s ∈ p, s.size ≤ 1048576) (hll : l.length ≤ 1048576)
    (hc : CellsAt w ao (p.map Value.string)) (hd : CellsAt w bo (l.map (Value.int .i64))) :
    Calls Try.prog 8 #[.slice ao p.length ca, .slice bo l.length cb] w fun e w' => e = .returned (.tuple #[.int .i64 ((wideV p l 1 : Nat) : Int), .bool (sizedB p l)]) ∧ Below w.heap.size w w' := by
  have HRD := Lib.hid (fun w hc hd => readDrawing_any ao bo ca cb p ((1 : Nat) : Int) l w hl hs hll hc hd)
  change Hid (∀ w _ _, Calls _ _ #[.slice ao p.length ca, .int .i64 1, .slice bo l.length cb] w _) at HRD
  have HZ := Lib.hid noDw_zero; have HZS := Lib.hid noDw_size
  cases hz : sizedB p l
  · rw [show wideV p l 1 = 0 by unfold wideV; rw [hz]; rfl]
    have HNO := Lib.hid (fun w => leastNil_any w)
    have HSB := Lib.hid hz
    obtain ⟨Z, hZ⟩ : ∃ Z, noDw = Z := ⟨_, rfl⟩
    rw [hZ] at HZ HZS HNO
    go_enter Try.func8, Try.ntmps8
    go_wp2_with fail
    refine (HRD.out _ hc hd).mono ?_
    rintro e w1 ⟨hdr, hb1⟩
    obtain ⟨D, rfl, hs1, hs2, hD0, hD1⟩ := dw_any hdr
    clear hdr
    have hDn := hD0 HSB.out
    rw [hZ] at hDn
    clear hD0 hD1 hZ
    subst hDn
    have hbx := hb1.alloc hb1.size (.cells D 44)
    have bD := HeldB.new w1 44 D
    have HDI := Lib.hid (show (Try.prog.info? 44).map (·.size) = some D.size by rw [hs1]; kernel_rfl)
    have HSD := Lib.hid hs1; have HS1 := Lib.hid hs2
    clear hs1 hs2
    go_wp2_with (first
      | (refine wpList_alloc_zero rfl 44 rfl D HZ.out ?_)
      | (refine wpList_store_new rfl 44 _ _ rfl _ D D rfl rfl rfl HDI.out rfl HS1.out ?_)
      | (refine wpList_load_row rfl 44 _ rfl w1.heap.size rfl 44 D (0, 0) _ bD Try.underlying44 rfl HDI.out ?_)
      | (go_at_call 13; refine (HNO.out _).mono ?_; rintro e w5 ⟨rfl, hb5⟩))
    go_ret2
    exact ⟨rfl, below_step hbx hbx.size hb5⟩
  · obtain ⟨hp, hlen, hnb, hr9, hr1, hdd⟩ := sized_facts hz
    rw [show wideV p l 1 = endS (pL p 1) (dN l) (gridR p) by unfold wideV; rw [hz]; rfl]
    have HYES := Lib.hid (fun gn cn (w : World) hN => least_any p.length (wideB p) (gridR p) (gridG p) (pL p) 1 (by omega) (dN l) gn cn w hr9 hr1 (pL_goes hp (by omega)) hdd hN)
    have HSB := Lib.hid hz
    have HR9 := Lib.hid hr9
    obtain ⟨Z, hZ⟩ : ∃ Z, noDw = Z := ⟨_, rfl⟩
    rw [hZ] at HZ HZS
    clear hp hlen hnb hr9 hr1 hdd
    go_enter Try.func8, Try.ntmps8
    go_wp2_with fail
    refine (HRD.out _ hc hd).mono ?_
    rintro e w1 ⟨hdr, hb1⟩
    obtain ⟨D, rfl, hs1, hs2, hD0, hD1⟩ := dw_any hdr
    clear hdr
    obtain ⟨gn, cn, hDe, hN⟩ := hD1 HSB.out
    have hN3 := hN.below (below_alloc w1 (.cells D 44))
    have hY := HYES.out gn cn
    rw [← hDe] at hY
    have HY := Lib.hid hY
    clear hD0 hD1 hN hY hDe
    clear hZ
    have hbx := hb1.alloc hb1.size (.cells D 44)
    have bD := HeldB.new w1 44 D
    have HDI := Lib.hid (show (Try.prog.info? 44).map (·.size) = some D.size by rw [hs1]; kernel_rfl)
    have HSD := Lib.hid hs1; have HS1 := Lib.hid hs2
    clear hs1 hs2
    go_wp2_with (first
      | (refine wpList_alloc_zero rfl 44 rfl Z HZ.out ?_)
      | (refine wpList_store_new rfl 44 _ _ rfl _ Z D rfl rfl rfl HDI.out (by rw [HSD.out, HZS.out]) HS1.out ?_)
      | (refine wpList_load_row rfl 44 _ rfl w1.heap.size rfl 44 D (0, 0) _ bD Try.underlying44 rfl HDI.out ?_)
      | (go_at_call 13; refine (HY.out _ hN3).mono ?_; rintro e w5 ⟨rfl, hb5⟩))
    go_ret2
    exact ⟨rfl, below_step hbx hbx.size hb5⟩
end Go.Proofs.Ytobkbgbkkiiloaa

/-
  The model's answers about sizes, and areas. (Walks.)
-/
namespace Go.Proofs.Ytobkbgbkkiiloaa
open Go.RowKit

set_option maxRecDepth 100000 in
set_option maxHeartbeats 8000000 in
theorem l7Least_any (ao bo : Option Addr) (ca cb : Nat) (p : List ByteArray) (l : List Int) (kind : Nat) (w : World) (hl : p.length ≤ 1048576) (hs : ∀ s ∈ p, s.size ≤ 1048576) (hz : sizedB p l = true) (hk : kind < 2)
    (hc : CellsAt w ao (p.map Value.string)) (hd : CellsAt w bo (l.map (Value.int .i64))) :
    Calls Try.prog 11 #[.slice ao p.length ca, .slice bo l.length cb, .int .i64 kind] w fun e w' => e = .returned (.int .i64 ((endS (pL p kind) (dN l) (gridR p) : Nat) : Int)) ∧ Below w.heap.size w w' := by
  obtain ⟨hp, hlen, hnb, hr9, hr1, hdd⟩ := sized_facts hz
  rw [hlen]
  have HPL := Lib.hid (fun (w : World) hc hd => l7Places_any ao bo ca cb p l kind w hl hs hp hlen hnb hk hc hd)
  have G := pL_goes hp hk
  have hf : ∀ b, b < gridR p → sumS (pL p kind) (dN l) (gridR p) b + dN l b ≤ 81 := fun b hb => by have := G.sum_few hdd hb hr9; have := hdd b hb; omega
  have HEF := Lib.hid (fun k (hk : k ≤ gridR p) => show eM (fun a => sumS (pL p kind) (dN l) (gridR p) a + dN l a) k ≤ 81 from (eM_le k).2 fun a ha => hf a (by omega))
  have HF := Lib.hid hf
  have HAT := Lib.hid (fun b (hb : b < gridR p) => show (setsV (sumL (pL p kind) (dN l) (gridR p)))[b]? = some (.int .i64 ((sumS (pL p kind) (dN l) (gridR p) b : Nat) : Int)) by rw [setsV_at (by rw [sumL_len]; exact hb), sumL_at hb])
  have HES := Lib.hid (show endS (pL p kind) (dN l) (gridR p) = eM (fun a => sumS (pL p kind) (dN l) (gridR p) a + dN l a) (gridR p) from rfl)
  have HST := Lib.hid (fun k => show eM (fun a => sumS (pL p kind) (dN l) (gridR p) a + dN l a) (k + 1) = max (eM (fun a => sumS (pL p kind) (dN l) (gridR p) a + dN l a) k) (sumS (pL p kind) (dN l) (gridR p) k + dN l k) from rfl)
  have HZ := Lib.hid (show eM (fun a => sumS (pL p kind) (dN l) (gridR p) a + dN l a) 0 = 0 from rfl)
  have HND := Lib.hid (fun a (ha : a < gridR p) => (needB_at hnb (by omega : a < l.length)).1)
  have HLN := Lib.hid hlen
  have HSL := Lib.hid (sumL_len (pL p kind) (dN l) (gridR p))
  clear G hf hl hs hz hp hlen hnb hdd
  generalize sumL (pL p kind) (dN l) (gridR p) = SL at *
  generalize endS (pL p kind) (dN l) (gridR p) = es at *
  generalize hsu : sumS (pL p kind) (dN l) (gridR p) = su at *
  generalize hdl : dN l = d at *
  generalize hem : eM (fun a => su a + d a) = em at *
  generalize gridR p = r at *
  clear hsu hem hdl
  go_enter Try.func11, Try.ntmps11
  go_wp2_with fail
  refine (HPL.out _ hc hd).mono ?_
  rintro e w1 ⟨⟨gA, hgA, rfl, hA⟩, hb1⟩
  rw [HSL.out]
  have hd1 := hd.below hb1
  obtain ⟨nb, no, rfl, -⟩ := hd1.int 0 (by rw [HLN.out]; omega)
  have HD := Lib.hid hd
  clear HPL hc hd hd1
  go_wp2
  go_loopw [8, 9] (fun vm vk wr => ∃ (k : Nat), k ≤ r ∧ vk = .int .i64 (k : Int) ∧ vm = .int .i64 ((em k : Nat) : Int) ∧ HeldB wr gA 3 (setsV SL) ∧ Below w.heap.size w wr) (fun _ vk _ => r - (intOf vk).toNat)
  case atStart => exact ⟨0, Nat.zero_le _, rfl, by rw [HZ.out]; rfl, hA, hb1⟩
  case round =>
    clear hA hb1
    obtain ⟨k, hk, rfl, rfl, hA, hB⟩ := hrel
    by_cases hkr : k < r
    · have hkrI : (k : Int) < (r : Int) := by omega
      have cS := (hA.cell k).trans (HAT.out k hkr)
      obtain ⟨b2, o2, e2, kd⟩ := (HD.out.below hB).int k (by rw [HLN.out]; exact hkr)
      cases e2
      rw [HND.out k hkr] at kd
      have hs81 := HF.out k hkr
      have he81 := HEF.out k hk
      have hst := HST.out k
      obtain ⟨mm, hmm⟩ : ∃ mm, em (k + 1) = mm := ⟨_, rfl⟩
      have HEQ := Lib.hid (show (Value.int .i64 (mm : Int)) = .int .i64 ((em (k + 1) : Nat) : Int) by rw [hmm])
      rw [hmm] at hst
      clear hmm
      generalize em k = y at *
      generalize su k = x at *
      have HMX := Lib.hid (show (if (y : Int) < (x : Int) + (d k : Int) then (x : Int) + (d k : Int) else (y : Int)) = (mm : Int) by rw [max_sum, hst])
      clear hst
      generalize d k = e at *
      go_wp2
      go_region
      rw [HMX.out]
      go_wp2
      go_roundw
      case rel => exact ⟨k + 1, by omega, by go_num, HEQ.out, hA.below (below_drewN _ _ 1), hB.trans (below_drewN _ _ 1)⟩
      case measure => simp [intOf]; omega
    · obtain rfl : k = r := by omega
      have he := HES.out
      clear hA
      go_wp2
      go_ret
      exact ⟨by first | rfl | (rw [he]; rfl), hB⟩
theorem l6B_19 (x : Int) : l6B x 1 9 = (decide (1 ≤ x) && decide (x ≤ 9)) := by unfold l6B; rw [Bool.eq_iff_iff]; simp
set_option maxRecDepth 100000 in
set_option maxHeartbeats 8000000 in
theorem l7Needs_any (ao bo : Option Addr) (ca cb : Nat) (p : List ByteArray) (l : List Int) (w : World) (hl : p.length ≤ 1048576) (hs : ∀ s ∈ p, s.size ≤ 1048576) (hll : l.length ≤ 1048576)
    (hc : CellsAt w ao (p.map Value.string)) (hd : CellsAt w bo (l.map (Value.int .i64))) :
    Calls Try.prog 10 #[.slice ao p.length ca, .slice bo l.length cb] w fun e w' => e = .returned (.bool (sizedB p l)) ∧ Below w.heap.size w w' := by
  have HP := Lib.hid (fun w hc => l5Plain_any ao ca p w hl hs hc)
  have HR := Lib.hid (fun w hc => l1Rooms_any ao ca p w hl hs hc)
  cases hp : plainB p
  · rw [show sizedB p l = false by unfold sizedB; rw [hp]; rfl]
    rw [hp] at HP
    clear hp
    go_enter Try.func10, Try.ntmps10
    go_wp2_with (go_at_call 18; refine (HP.out _ hc).mono ?_; rintro e w1 ⟨rfl, hb1⟩)
    go_ret
    exact ⟨rfl, hb1⟩
  · rw [sizedB_is hp]
    rw [hp] at HP
    have HRR := Lib.hid (planP_of (plainB_plan hp)).rooms
    rw [HRR.out] at HR
    have HC := Lib.hid hc
    clear hp hc
    generalize gridR p = r at *
    by_cases hlr : l.length = r
    · have HN := Lib.hid (fun i (hi : i < l.length) => needB_take (l := l) hi)
      have HST := Lib.hid (fun i (hi : i < l.length) h => needB_stop (l := l) (i := i) hi h)
      have hnn : ((l.length : Int) != (r : Int)) = false := by rw [bne_eq_false_iff_eq]; omega
      have heq : ((l.length : Int) == (r : Int)) = true := by rw [beq_iff_eq]; omega
      rw [decide_eq_true hlr, Bool.true_and]
      have HLL := Lib.hid (show l.take l.length = l from List.take_length)
      have hN0 : needB (l.take 0) = true := rfl
      have HIN := Lib.hid (fun x w => l6In_any x 1 9 w)
      clear hlr
      have HD := Lib.hid hd; clear hd
      go_enter Try.func10, Try.ntmps10
      go_wp2_with (first
        | (go_at_call 18; refine (HP.out _ HC.out).mono ?_; rintro e w1 ⟨rfl, hb1⟩)
        | (go_at_call 16; refine (HR.out _ (HC.out.below hb1)).mono ?_; rintro e w2 ⟨rfl, rfl⟩))
      go_loopw [5] (fun vi wr => ∃ (i : Nat), i ≤ l.length ∧ vi = .int .i64 (i : Int) ∧ Below w.heap.size w wr ∧ needB (l.take i) = true) (fun vi _ => l.length - (intOf vi).toNat)
      case atStart => exact ⟨0, Nat.zero_le _, rfl, hb1, hN0⟩
      case round =>
        clear hb1 hN0
        obtain ⟨i, hi, rfl, hB, hnd⟩ := hrel
        by_cases hil : i < l.length
        · obtain ⟨b, off, rfl, hcell⟩ := (HD.out.below hB).int i hil
          have hn1 := HN.out i hil
          have hs1 := HST.out i hil
          rw [hnd, Bool.true_and] at hn1
          have hilI : (i : Int) < (l.length : Int) := by omega
          generalize l.getD i 0 = x at *
          have HX := Lib.hid (fun w => HIN.out x w)
          rw [l6B_19] at HX
          cases hx : (decide (1 ≤ x) && decide (x ≤ 9))
          · rw [hx] at HX
            have HNF := Lib.hid (hs1 hx)
            clear hn1 hs1 hx hnd
            go_wp2_with (go_at_call 19; refine (HX.out _).mono ?_; rintro e w2 ⟨rfl, rfl⟩)
            go_ret
            exact ⟨ret_bool HNF.out.symm, hB⟩
          · rw [hx] at HX hn1
            have HNN := Lib.hid hn1
            clear hn1 hs1 hx hnd
            go_wp2_with (go_at_call 19; refine (HX.out _).mono ?_; rintro e w2 ⟨rfl, rfl⟩)
            go_roundw
            case rel => exact ⟨i + 1, by omega, by go_num, hB, HNN.out⟩
            case measure => simp [intOf]; omega
        · obtain rfl : i = l.length := by omega
          rw [HLL.out] at hnd
          have HY := Lib.hid hnd
          clear hnd
          go_wp2
          go_ret
          exact ⟨ret_bool HY.out.symm, hB⟩
    · rw [decide_eq_false hlr, Bool.false_and]
      have hnn : ((l.length : Int) != (r : Int)) = true := by rw [bne_iff_ne]; omega
      have heq : ((l.length : Int) == (r : Int)) = false := by rw [beq_eq_false_iff_ne]; omega
      have HLR := Lib.hid hlr; clear hlr
      go_enter Try.func10, Try.ntmps10
      go_wp2_with (first
        | (go_at_call 18; refine (HP.out _ HC.out).mono ?_; rintro e w1 ⟨rfl, hb1⟩)
        | (go_at_call 16; refine (HR.out _ (HC.out.below hb1)).mono ?_; rintro e w2 ⟨rfl, rfl⟩))
      go_ret
      exact ⟨rfl, hb1⟩

theorem wideV_le (p : List ByteArray) (l : List Int) {way : Nat} (hw : way < 2) : wideV p l way ≤ 81 := by
  unfold wideV
  split
  · next hz =>
    obtain ⟨hp, _, _, hr9, _, hdd⟩ := sized_facts hz
    have G := pL_goes hp hw
    exact (eM_le _).2 fun a ha => by have := G.sum_few hdd ha hr9; have := hdd a ha; omega
  · omega
/-- the product of the least width and the least height -/
def areaZ (p : List ByteArray) (l m : List Int) : Nat := wideV p l 0 * wideV p m 1
theorem areaZ_no {p : List ByteArray} {l m : List Int} (h : (sizedB p l && sizedB p m) = false) : areaZ p l m = 0 := by
  unfold areaZ wideV
  cases h1 : sizedB p l
  · simp
  · cases h2 : sizedB p m
    · simp
    · rw [h1, h2] at h; cases h
theorem mul_bound {x y : Nat} (hx : x ≤ 81) (hy : y ≤ 81) : wrap64 ((x : Int) * (y : Int)) = ((x * y : Nat) : Int) := by
  have h1 : x * y ≤ 81 * 81 := Nat.mul_le_mul hx hy
  rw [← Int.natCast_mul]
  unfold wrap64
  omega
set_option maxRecDepth 100000 in
set_option maxHeartbeats 4000000 in
theorem implSizeArea_any (ao bo co : Option Addr) (ca cb cc : Nat) (p : List ByteArray) (l m : List Int) (w : World) (hl : p.length ≤ 1048576) (hs : ∀ s ∈ p, s.size ≤ 1048576) (hll : l.length ≤ 1048576) (hml : m.length ≤ 1048576)
    (hc : CellsAt w ao (p.map Value.string)) (hd : CellsAt w bo (l.map (Value.int .i64))) (he : CellsAt w co (m.map (Value.int .i64))) :
    Calls Try.prog 5 #[.slice ao p.length ca, .slice bo l.length cb, .slice co m.length cc] w fun e w' => e = .returned (.tuple #[.int .i64 ((areaZ p l m : Nat) : Int), .bool (sizedB p l && sizedB p m)]) ∧ Below w.heap.size w w' := by
  have HW := Lib.hid (fun (w : World) hc hd => implSizeWide_any ao bo ca cb p l w hl hs hll hc hd)
  have HH := Lib.hid (fun (w : World) hc hd => implSizeHigh_any ao co ca cc p m w hl hs hml hc hd)
  have HM := Lib.hid (mul_bound (wideV_le p l (way := 0) (by omega)) (wideV_le p m (way := 1) (by omega)))
  unfold areaZ
  generalize wideV p l 0 = x at *
  generalize wideV p m 1 = y at *
  generalize sizedB p m = s2 at *
  cases hs1 : sizedB p l
  all_goals
    rw [hs1] at HW
    clear hs1
    go_enter Try.func5, Try.ntmps5
    go_wp2_with fail
    refine (HW.out _ hc hd).mono ?_
    rintro e w1 ⟨rfl, hb1⟩
    have hc1 := hc.below hb1
    have he1 := he.below hb1
    clear HW hc he hd
    go_wp2_with fail
    refine (HH.out _ hc1 he1).mono ?_
    rintro e w2 ⟨rfl, hb2⟩
    have hm := HM.out
    clear HH hc1 he1
    go_wp2
    go_ret2
    exact ⟨by first | rfl | (rw [← hm]; rfl) | (rw [← HM.out]; rfl), below_step hb1 hb1.size hb2⟩

theorem placesV_few (p : List ByteArray) (l : List Int) : (intsL (placesV p l 0)).length ≤ 1048576 := by
  rw [intsL_len]
  unfold placesV
  split
  · next hz => rw [sumL_len]; have := (sized_facts hz).2.2.2.1; omega
  · exact Nat.zero_le _
set_option maxRecDepth 100000 in
set_option maxHeartbeats 4000000 in
theorem specSizeArea_any (ao bo co : Option Addr) (ca cb cc : Nat) (p : List ByteArray) (l m : List Int) (w : World) (hl : p.length ≤ 1048576) (hs : ∀ s ∈ p, s.size ≤ 1048576) (hll : l.length ≤ 1048576) (hml : m.length ≤ 1048576)
    (hc : CellsAt w ao (p.map Value.string)) (hd : CellsAt w bo (l.map (Value.int .i64))) (he : CellsAt w co (m.map (Value.int .i64))) :
    Calls Try.prog 6 #[.slice ao p.length ca, .slice bo l.length cb, .slice co m.length cc] w fun e w' => e = .returned (.tuple #[.int .i64 ((areaZ p l m : Nat) : Int), .bool (sizedB p l && sizedB p m)]) ∧ Below w.heap.size w w' := by
  have HN := Lib.hid (fun (w : World) hc hd => l7Needs_any ao bo ca cb p l w hl hs hll hc hd)
  have HO := Lib.hid (fun (w : World) hc he => l7Needs_any ao co ca cc p m w hl hs hml hc he)
  have HA0 := Lib.hid (fun h => areaZ_no (p := p) (l := l) (m := m) h)
  cases h1 : sizedB p l
  · rw [HA0.out (by rw [h1]; rfl), Bool.false_and]
    rw [h1] at HN
    clear h1 HA0 HO
    go_enter Try.func6, Try.ntmps6
    go_wp2_with (go_at_call 10; refine (HN.out _ hc hd).mono ?_; rintro e w1 ⟨rfl, hb1⟩)
    go_ret2
    exact ⟨rfl, hb1⟩
  · rw [h1] at HN
    cases h2 : sizedB p m
    · rw [HA0.out (by rw [h1, h2]; rfl), Bool.true_and]
      rw [h2] at HO
      clear h1 h2 HA0
      have HE := Lib.hid (fun (w1 : World) hb => (⟨hc.below hb, he.below hb⟩ : CellsAt w1 ao (p.map Value.string) ∧ CellsAt w1 co (m.map (Value.int .i64))))
      go_enter Try.func6, Try.ntmps6
      go_wp2_with (first
        | (go_at_call 10; refine (HN.out _ hc hd).mono ?_; rintro e w1 ⟨rfl, hb1⟩; clear HN; have hE := HE.out _ hb1)
        | (go_at_call 10; refine (HO.out _ hE.1 hE.2).mono ?_; rintro e w2 ⟨rfl, hb2⟩))
      go_ret2
      exact ⟨rfl, below_step hb1 hb1.size hb2⟩
    · have HL := Lib.hid (fun (w : World) hc hd => l7Least_any ao bo ca cb p l 0 w hl hs h1 (by omega) hc hd)
      have HK := Lib.hid (fun (w : World) hc he => l7Least_any ao co ca cc p m 1 w hl hs h2 (by omega) hc he)
      change Hid (∀ w _ _, Calls _ _ #[_, _, .int .i64 0] w _) at HL
      change Hid (∀ w _ _, Calls _ _ #[_, _, .int .i64 1] w _) at HK
      have HM := Lib.hid (mul_bound (wideV_le p l (way := 0) (by omega)) (wideV_le p m (way := 1) (by omega)))
      have e1 : wideV p l 0 = endS (pL p 0) (dN l) (gridR p) := by unfold wideV; rw [h1]; rfl
      have e2 : wideV p m 1 = endS (pL p 1) (dN m) (gridR p) := by unfold wideV; rw [h2]; rfl
      rw [← e1] at HL
      rw [← e2] at HK
      rw [h2] at HO
      unfold areaZ
      clear e1 e2 h1 h2 HA0
      generalize wideV p l 0 = x at *
      generalize wideV p m 1 = y at *
      have HE := Lib.hid (fun (w1 : World) hb => (⟨hc.below hb, hd.below hb, he.below hb⟩ : CellsAt w1 ao (p.map Value.string) ∧ CellsAt w1 bo (l.map (Value.int .i64)) ∧ CellsAt w1 co (m.map (Value.int .i64))))
      go_enter Try.func6, Try.ntmps6
      go_wp2_with fail
      refine (HN.out _ hc hd).mono ?_
      rintro e w1 ⟨rfl, hb1⟩
      obtain ⟨hc1, hd1, he1⟩ := HE.out _ hb1
      clear HN HE hc hd he
      go_wp2_with fail
      refine (HO.out _ hc1 he1).mono ?_
      rintro e w2 ⟨rfl, hb2⟩
      have hc2 := hc1.below hb2; have hd2 := hd1.below hb2; have he2 := he1.below hb2
      have hB2 := below_step hb1 hb1.size hb2
      clear HO hc1 hd1 he1 hb1 hb2
      go_wp2_with fail
      refine (HL.out _ hc2 hd2).mono ?_
      rintro e w3 ⟨rfl, hb3⟩
      have hc3 := hc2.below hb3; have he3 := he2.below hb3
      have hB3 := below_step hB2 hB2.size hb3
      clear HL hc2 hd2 he2 hB2 hb3
      go_wp2_with fail
      refine (HK.out _ hc3 he3).mono ?_
      rintro e w4 ⟨rfl, hb4⟩
      have hm := HM.out
      go_wp2
      go_ret2
      exact ⟨by first | rfl | (rw [← hm]; rfl), below_step hB3 hB3.size hb4⟩

end Go.Proofs.Ytobkbgbkkiiloaa

/-
  Merged texts: SizF SizG SizH SizI SizJ SizK.
-/
/-
  The comparison that puts needs in the same order from behind. (Walks.)
-/
namespace Go.Proofs.Ytobkbgbkkiiloaa
open Go.RowKit

/-- a question asked from behind -/
def flipQ (q : Nat → Nat → Bool) : Nat → Nat → Bool := fun a b => q b a
theorem Lin.flip {q : Nat → Nat → Bool} {r : Nat} (L : Lin q r) : Lin (flipQ q) r :=
  ⟨fun a ha => L.irr a ha, fun a b ha hb hne => (L.all a b ha hb hne).elim Or.inr Or.inl, fun a b c ha hb hc h1 h2 => L.trans c b a hc hb ha h2 h1⟩
theorem Goes.flip {f q : Nat → Nat → Bool} {r : Nat} (G : Goes f q r) : Goes (flipQ f) (flipQ q) r :=
  ⟨G.lin.flip, fun a b h => ⟨(G.imp b a h).2.1, (G.imp b a h).1, (G.imp b a h).2.2⟩⟩
theorem cmpQ_flip (q : Nat → Nat → Bool) (a b : Nat) : cmpQ q b a = cmpQ (flipQ q) a b := rfl
def fwV (D : Array Value) : Value := .func (.func 24) #[.agg D] #[]
end Go.Proofs.Ytobkbgbkkiiloaa

/-
  Needs are put in order from behind: slices.SortFunc with the opposite comparison. (Walks.)
-/
namespace Go.Proofs.Ytobkbgbkkiiloaa
open Go.RowKit

end Go.Proofs.Ytobkbgbkkiiloaa

/-
  Greatest sums of needs from behind. (Walks.)
-/
namespace Go.Proofs.Ytobkbgbkkiiloaa
open Go.RowKit

end Go.Proofs.Ytobkbgbkkiiloaa

/-
  The program's slack of a drawing. (Walks.)
-/
namespace Go.Proofs.Ytobkbgbkkiiloaa
open Go.RowKit

theorem thru_le {f q : Nat → Nat → Bool} {r : Nat} {d : Nat → Nat} (G : Goes f q r) : ∀ k a, a < r → sumS f d r a + d a + wK (flipQ f) d r k a ≤ endS f d r
  | 0, a, ha => (eM_le (v := fun a => sumS f d r a + d a) r).1 (Nat.le_refl _) a ha
  | k + 1, a, ha => by
    have hv := gM_some (f := flipQ f) (v := fun b => wK (flipQ f) d r k b + d b) (b := a) r
    rw [wK_succ]
    rcases hv with h0 | ⟨b, hb, hf, he⟩
    · rw [h0]; exact (eM_le (v := fun a => sumS f d r a + d a) r).1 (Nat.le_refl _) a ha
    · rw [he]
      have h1 := thru_le (d := d) G k b hb
      have h2 := G.sum_up (d := d) (show f a b = true from hf)
      omega
/-- the slack of a room -/
def slN (f : Nat → Nat → Bool) (d : Nat → Nat) (r a : Nat) : Nat := endS f d r - sumS f d r a - d a - sumS (flipQ f) d r a
def slL (f : Nat → Nat → Bool) (d : Nat → Nat) (r : Nat) : List Nat := (List.range r).map (slN f d r)
theorem slL_len (f : Nat → Nat → Bool) (d : Nat → Nat) (r : Nat) : (slL f d r).length = r := by simp [slL]
theorem slN_int {f q : Nat → Nat → Bool} {r a : Nat} {d : Nat → Nat} (G : Goes f q r) (ha : a < r) : (endS f d r : Int) - (sumS f d r a : Int) - (d a : Int) - (sumS (flipQ f) d r a : Int) = ((slN f d r a : Nat) : Int) := by
  have := thru_le (d := d) G r a ha
  unfold slN sumS at *
  omega
/-- the slack of the first rooms -/
def slK (sl : Nat → Nat) (r k : Nat) : List Nat := (List.range r).map fun a => if a < k then sl a else 0
theorem slK_len (sl : Nat → Nat) (r k : Nat) : (slK sl r k).length = r := by simp [slK]
theorem slK_at {sl : Nat → Nat} {r k a : Nat} (ha : a < r) : (slK sl r k).getD a 0 = if a < k then sl a else 0 := by simp [slK, ha]
theorem slK_zero (sl : Nat → Nat) (r : Nat) : slK sl r 0 = List.replicate r 0 :=
  list_getD_ext (by simp [slK]) fun b hb => by rw [slK_len] at hb; rw [slK_at hb, zeros_at]; rfl
theorem slK_all (sl : Nat → Nat) (r : Nat) : slK sl r r = (List.range r).map sl :=
  list_getD_ext (by simp [slK]) fun b hb => by rw [slK_len] at hb; rw [slK_at hb, if_pos hb]; simp [hb]
theorem slK_put (sl : Nat → Nat) {r k : Nat} (hk : k < r) : (slK sl r k).set k (sl k) = slK sl r (k + 1) :=
  list_getD_ext (by rw [List.length_set, slK_len, slK_len]) fun b hb => by
    rw [List.length_set, slK_len] at hb
    rw [getD_set _ _ _ _ (by rw [slK_len]; exact hk), slK_at hb, slK_at hb]
    by_cases e : b = k
    · subst e; rw [if_pos rfl, if_pos (by omega)]
    · rw [if_neg e]
      by_cases hl : b < k
      · rw [if_pos hl, if_pos (by omega)]
      · rw [if_neg hl, if_neg (by omega)]
theorem s_go {P : Program} {ops : Array Oper} {Q : Exit → Act → World → Prop} {i : Nat} {o : Oper} {K : Act → World → Prop} {a : Act} {w : World} (hi : ops[i]? = some o) (hw : Region.wanted o (yielded ops a.tmps) = true) (h : o.wp P a w K Q) : wpOp P ops Q i K a w := by
  unfold wpOp
  simp only [hi, hw, if_true]
  exact .inl h
end Go.Proofs.Ytobkbgbkkiiloaa

/-
  The program's slack of a drawing of nothing, and of a plan. (Walks.)
-/
namespace Go.Proofs.Ytobkbgbkkiiloaa
open Go.RowKit

def slackV (p : List ByteArray) (l : List Int) : List Nat := if sizedB p l = true then slL (pL p 0) (dN l) (gridR p) else []
theorem slackV_few (p : List ByteArray) (l : List Int) : (intsL (slackV p l)).length ≤ 1048576 := by
  unfold slackV
  split
  · rename_i h
    have := (sized_facts h).2.2.2.1
    simp [intsL, slL_len]; omega
  · simp [intsL]
end Go.Proofs.Ytobkbgbkkiiloaa

/-
  The model's slack. (Walks.)
-/
namespace Go.Proofs.Ytobkbgbkkiiloaa
open Go.RowKit

/-- the model's rounds from behind -/
structure WbJ (f : Nat → Nat → Bool) (d : Nat → Nat) (r t a j : Nat) (S : List Nat) : Prop where
  len : S.length = r
  up : ∀ b, b < r → S.getD b 0 ≤ sumS (flipQ f) d r b
  lo : ∀ b, b < r → wK (flipQ f) d r t b ≤ S.getD b 0
  part : ∀ b, b < r → gM (flipQ f) (fun x => wK (flipQ f) d r t x + d x) b (if b < a then r else if b = a then j else 0) ≤ S.getD b 0
theorem WbJ.start (f : Nat → Nat → Bool) (d : Nat → Nat) (r : Nat) : WbJ f d r 0 0 0 (List.replicate r 0) :=
  ⟨by simp, fun b hb => by simp [hb], fun b hb => Nat.zero_le _, fun b hb => by rw [if_neg (by omega)]; split <;> exact Nat.zero_le _⟩
theorem WbJ.skip {f : Nat → Nat → Bool} {d : Nat → Nat} {r t a j : Nat} {S : List Nat} (h : WbJ f d r t a j S) (hf : f a j = false) : WbJ f d r t a (j + 1) S := by
  refine ⟨h.len, h.up, h.lo, fun b hb => ?_⟩
  have := h.part b hb
  by_cases hl : b < a
  · rw [if_pos hl] at this ⊢; exact this
  · rw [if_neg hl] at this ⊢
    by_cases e : b = a
    · subst e
      rw [if_pos rfl] at this ⊢
      rw [gM_no (show flipQ f j b = false from hf)]; exact this
    · rw [if_neg e] at this ⊢; exact this
theorem WbJ.step {f q : Nat → Nat → Bool} {d : Nat → Nat} {r t a j : Nat} {S : List Nat} (G : Goes f q r) (h : WbJ f d r t a j S) (hf : f a j = true) : WbJ f d r t a (j + 1) (S.set a (max (S.getD a 0) (S.getD j 0 + d j))) := by
  have hff : flipQ f j a = true := hf
  obtain ⟨ha, hj, _⟩ := G.imp _ _ hf
  have hs := G.flip.sum_up (d := d) hff
  have hua := h.up a ha
  have huj := h.up j hj
  have hlj := h.lo j hj
  have hg : ∀ b, (S.set a (max (S.getD a 0) (S.getD j 0 + d j))).getD b 0 = if b = a then max (S.getD a 0) (S.getD j 0 + d j) else S.getD b 0 := fun b => getD_set S a b _ (by rw [h.len]; exact ha)
  refine ⟨by rw [List.length_set]; exact h.len, fun b hb => ?_, fun b hb => ?_, fun b hb => ?_⟩
  · rw [hg]; split
    · next e => subst e; omega
    · exact h.up b hb
  · rw [hg]; split
    · next e => subst e; have := h.lo b hb; omega
    · exact h.lo b hb
  · have := h.part b hb
    rw [hg]
    by_cases hl : b < a
    · rw [if_pos hl] at this ⊢; rw [if_neg (by omega)]; exact this
    · rw [if_neg hl] at this ⊢
      by_cases e : b = a
      · subst e
        rw [if_pos rfl] at this ⊢
        rw [if_pos rfl, gM_yes hff]
        show max _ (wK (flipQ f) d r t j + d j) ≤ _
        omega
      · rw [if_neg e] at this ⊢; rw [if_neg e]; exact this
theorem WbJ.row {f : Nat → Nat → Bool} {d : Nat → Nat} {r t a : Nat} {S : List Nat} (h : WbJ f d r t a r S) : WbJ f d r t (a + 1) 0 S :=
  ⟨h.len, h.up, h.lo, fun b hb => by
    have := h.part b hb
    by_cases hl : b < a
    · rw [if_pos hl] at this; rw [if_pos (by omega)]; exact this
    · rw [if_neg hl] at this
      by_cases e : b = a
      · rw [if_pos e] at this; rw [if_pos (by omega)]; exact this
      · rw [if_neg (by omega)]; split <;> exact Nat.zero_le _⟩
theorem WbJ.round {f : Nat → Nat → Bool} {d : Nat → Nat} {r t : Nat} {S : List Nat} (h : WbJ f d r t r 0 S) : WbJ f d r (t + 1) 0 0 S :=
  ⟨h.len, h.up, fun b hb => by have := h.part b hb; rw [if_pos hb] at this; exact this, fun b hb => by rw [if_neg (by omega)]; split <;> exact Nat.zero_le _⟩
theorem WbJ.done {f : Nat → Nat → Bool} {d : Nat → Nat} {r : Nat} {S : List Nat} (h : WbJ f d r r 0 0 S) : S = sumL (flipQ f) d r := by
  refine list_getD_ext (by rw [h.len, sumL_len]) fun b hb => ?_
  rw [h.len] at hb
  rw [sumL_at hb]
  have h1 := h.up b hb
  have h2 := h.lo b hb
  unfold sumS at h1 ⊢
  omega
theorem slL_step (f : Nat → Nat → Bool) (d : Nat → Nat) {r k : Nat} (hk : k < r) : (slL f d r).take (k + 1) = (slL f d r).take k ++ [slN f d r k] := by
  rw [take_succ_getD _ k 0 (by rw [slL_len]; exact hk)]
  congr 2
  simp [slL, hk]

end Go.Proofs.Ytobkbgbkkiiloaa
