
/-
  Merged texts: SizW SizY.
-/
import Derived.Test.YtamfnahbhhmiiaaLon
import Derived.Test.YtamfnahbhhmiiaaLong
import Derived.Test.YtamfnahbhhmiiaaOrdAB
import Derived.Deep.MidRow
import Derived.Lib.QuietBelow
import Derived.OrdersHeld
import Derived.BigRegion
import Derived.Maps.AppendAt
import Derived.Lib.SliceRun
import Derived.Lib.BufferMore
import Derived.Deep.AppendLies
import Derived.Deep.RegionHeld3

/-
  Merged texts: SizX SizV.
-/
/-
  Merged texts: SizM InsM SizN SizO SizQ SizA SizB.
-/
/-
  Greatest sums of needs of rooms each of which leads to the next one. (Plain mathematics: no function is named.)
-/
namespace Go.Proofs.Ytamfnahbhhmiiaa

/-- the greatest of what comes of those that lead to a room, of the first ones -/
def gM (f : Nat → Nat → Bool) (v : Nat → Nat) (b : Nat) : Nat → Nat
  | 0 => 0
  | i + 1 => if f i b = true then max (gM f v b i) (v i) else gM f v b i
theorem gM_yes {f : Nat → Nat → Bool} {v : Nat → Nat} {b i : Nat} (h : f i b = true) : gM f v b (i + 1) = max (gM f v b i) (v i) := by
  show (if f i b = true then _ else _) = _
  rw [if_pos h]
theorem gM_no {f : Nat → Nat → Bool} {v : Nat → Nat} {b i : Nat} (h : f i b = false) : gM f v b (i + 1) = gM f v b i := by
  show (if f i b = true then _ else _) = _
  rw [h]; rfl
theorem gM_le {f : Nat → Nat → Bool} {v : Nat → Nat} {b m : Nat} : ∀ i, gM f v b i ≤ m ↔ ∀ a, a < i → f a b = true → v a ≤ m
  | 0 => ⟨fun _ a ha => by omega, fun _ => Nat.zero_le _⟩
  | i + 1 => by
    have ih := gM_le (f := f) (v := v) (b := b) (m := m) i
    cases h : f i b
    · rw [gM_no h, ih]
      constructor
      · intro k a ha hf
        by_cases e : a = i
        · rw [e, h] at hf; cases hf
        · exact k a (by omega) hf
      · exact fun k a ha hf => k a (by omega) hf
    · rw [gM_yes h, Nat.max_le, ih]
      constructor
      · rintro ⟨k, k2⟩ a ha hf
        by_cases e : a = i
        · rw [e]; exact k2
        · exact k a (by omega) hf
      · exact fun k => ⟨fun a ha hf => k a (by omega) hf, k i (by omega) h⟩
theorem gM_congr {f : Nat → Nat → Bool} {v v' : Nat → Nat} {b : Nat} {i : Nat} (h : ∀ a, a < i → f a b = true → v a = v' a) : gM f v b i = gM f v' b i := by
  apply Nat.le_antisymm
  · rw [gM_le]; intro a ha hf; rw [h a ha hf]; exact (gM_le i).1 (Nat.le_refl _) a ha hf
  · rw [gM_le]; intro a ha hf; rw [← h a ha hf]; exact (gM_le i).1 (Nat.le_refl _) a ha hf
theorem gM_some {f : Nat → Nat → Bool} {v : Nat → Nat} {b : Nat} : ∀ i, gM f v b i = 0 ∨ ∃ a, a < i ∧ f a b = true ∧ gM f v b i = v a
  | 0 => .inl rfl
  | i + 1 => by
    cases h : f i b
    · rw [gM_no h]
      rcases gM_some (f := f) (v := v) (b := b) i with k | ⟨a, h1, h2, h3⟩
      · exact .inl k
      · exact .inr ⟨a, by omega, h2, h3⟩
    · rw [gM_yes h]
      by_cases hm : gM f v b i ≤ v i
      · exact .inr ⟨i, by omega, h, by omega⟩
      · rcases gM_some (f := f) (v := v) (b := b) i with k | ⟨a, h1, h2, h3⟩
        · omega
        · exact .inr ⟨a, by omega, h2, by omega⟩
/-- greatest sums of at most k -/
def wK (f : Nat → Nat → Bool) (d : Nat → Nat) (r : Nat) : Nat → Nat → Nat
  | 0, _ => 0
  | k + 1, b => gM f (fun a => wK f d r k a + d a) b r
theorem wK_succ (f : Nat → Nat → Bool) (d : Nat → Nat) (r k b : Nat) : wK f d r (k + 1) b = gM f (fun a => wK f d r k a + d a) b r := rfl
theorem Goes.rank {f q : Nat → Nat → Bool} {r a b : Nat} (G : Goes f q r) (h : f a b = true) : placeN q r a < placeN q r b := G.lin.mono (G.imp _ _ h).1 (G.imp _ _ h).2.1 (G.imp _ _ h).2.2
theorem Goes.wK_same {f q : Nat → Nat → Bool} {r : Nat} {d : Nat → Nat} (G : Goes f q r) : ∀ n k k' b, b < r → placeN q r b ≤ n → n ≤ k → n ≤ k' → wK f d r k b = wK f d r k' b
  | 0, k, k', b, hb, hp, _, _ => by
    have z : ∀ k, wK f d r k b = 0 := fun k => by
      cases k with
      | zero => rfl
      | succ k =>
        rw [wK_succ]
        exact Nat.le_zero.1 ((gM_le r).2 fun a ha hf => by have := G.rank hf; omega)
    rw [z, z]
  | n + 1, k, k', b, hb, hp, hk, hk' => by
    obtain ⟨j, rfl⟩ : ∃ j, k = j + 1 := ⟨k - 1, by omega⟩
    obtain ⟨j', rfl⟩ : ∃ j, k' = j + 1 := ⟨k' - 1, by omega⟩
    rw [wK_succ, wK_succ]
    refine gM_congr fun a ha hf => ?_
    have := G.rank hf
    rw [G.wK_same n j j' a ha (by omega) (by omega) (by omega)]
/-- the greatest sum ahead of a room -/
def sumS (f : Nat → Nat → Bool) (d : Nat → Nat) (r b : Nat) : Nat := wK f d r r b
theorem Goes.sum_fix {f q : Nat → Nat → Bool} {r b : Nat} {d : Nat → Nat} (G : Goes f q r) (hb : b < r) : gM f (fun a => sumS f d r a + d a) b r = sumS f d r b :=
  (G.wK_same (d := d) r (r + 1) r b hb (Nat.le_of_lt (G.lin.lt hb)) (by omega) (Nat.le_refl _))
theorem Goes.sum_up {f q : Nat → Nat → Bool} {r a b : Nat} {d : Nat → Nat} (G : Goes f q r) (hf : f a b = true) : sumS f d r a + d a ≤ sumS f d r b := by
  rw [← G.sum_fix (G.imp _ _ hf).2.1]
  exact (gM_le (v := fun a => sumS f d r a + d a) r).1 (Nat.le_refl _) a (G.imp _ _ hf).1 hf
theorem Goes.sum_some {f q : Nat → Nat → Bool} {r b : Nat} {d : Nat → Nat} (G : Goes f q r) (hb : b < r) : sumS f d r b = 0 ∨ ∃ a, a < r ∧ f a b = true ∧ sumS f d r b = sumS f d r a + d a := by
  have h := gM_some (f := f) (v := fun a => sumS f d r a + d a) (b := b) r
  rw [G.sum_fix hb] at h
  exact h
theorem Goes.wK_few {f q : Nat → Nat → Bool} {r : Nat} {d : Nat → Nat} (G : Goes f q r) (hd : ∀ a, a < r → d a ≤ 9) : ∀ k b, b < r → wK f d r k b ≤ 9 * placeN q r b
  | 0, _, _ => Nat.zero_le _
  | k + 1, b, hb => by
    rw [wK_succ, gM_le]
    intro a ha hf
    have h1 := G.wK_few hd k a ha
    have h2 := G.rank hf
    have h3 := hd a ha
    show wK f d r k a + d a ≤ _
    omega
theorem Goes.sum_few {f q : Nat → Nat → Bool} {r b : Nat} {d : Nat → Nat} (G : Goes f q r) (hd : ∀ a, a < r → d a ≤ 9) (hb : b < r) (hr : r ≤ 9) : sumS f d r b ≤ 72 := by
  have h1 := G.wK_few hd r b hb
  have h2 := G.lin.lt hb
  unfold sumS
  omega
theorem Goes.wK_le {f q : Nat → Nat → Bool} {r : Nat} {d : Nat → Nat} (G : Goes f q r) : ∀ k b, b < r → wK f d r k b ≤ sumS f d r b
  | 0, _, _ => Nat.zero_le _
  | k + 1, b, hb => by
    rw [wK_succ, gM_le]
    intro a ha hf
    exact Nat.le_trans (Nat.add_le_add_right (G.wK_le k a ha) _) (G.sum_up hf)

/-- the greatest of the first ones -/
def eM (v : Nat → Nat) : Nat → Nat
  | 0 => 0
  | i + 1 => max (eM v i) (v i)
theorem eM_le {v : Nat → Nat} {m : Nat} : ∀ i, eM v i ≤ m ↔ ∀ a, a < i → v a ≤ m
  | 0 => ⟨fun _ a ha => by omega, fun _ => Nat.zero_le _⟩
  | i + 1 => by
    unfold eM
    rw [Nat.max_le, eM_le i]
    constructor
    · rintro ⟨k, k2⟩ a ha
      by_cases e : a = i
      · rw [e]; exact k2
      · exact k a (by omega)
    · exact fun k => ⟨fun a ha => k a (by omega), k i (by omega)⟩
/-- the least width: the greatest end -/
def endS (f : Nat → Nat → Bool) (d : Nat → Nat) (r : Nat) : Nat := eM (fun a => sumS f d r a + d a) r
def sumL (f : Nat → Nat → Bool) (d : Nat → Nat) (r : Nat) : List Nat := (List.range r).map (sumS f d r)
theorem sumL_len (f : Nat → Nat → Bool) (d : Nat → Nat) (r : Nat) : (sumL f d r).length = r := by simp [sumL]
theorem sumL_at {f : Nat → Nat → Bool} {d : Nat → Nat} {r b : Nat} (hb : b < r) : (sumL f d r).getD b 0 = sumS f d r b := by simp [sumL, hb]

/-! # going on from room to room, as often as there are rooms -/
structure WaJ (f : Nat → Nat → Bool) (d : Nat → Nat) (r t a j : Nat) (S : List Nat) : Prop where
  len : S.length = r
  up : ∀ b, b < r → S.getD b 0 ≤ sumS f d r b
  lo : ∀ b, b < r → wK f d r t b ≤ S.getD b 0
  part : ∀ b, b < r → gM f (fun a => wK f d r t a + d a) b (if b < j then a + 1 else a) ≤ S.getD b 0
theorem WaJ.start (f : Nat → Nat → Bool) (d : Nat → Nat) (r : Nat) : WaJ f d r 0 0 0 (List.replicate r 0) :=
  ⟨by simp, fun b hb => by simp [hb], fun b hb => Nat.zero_le _, fun b hb => by rw [if_neg (by omega)]; exact Nat.zero_le _⟩
theorem WaJ.skip {f : Nat → Nat → Bool} {d : Nat → Nat} {r t a j : Nat} {S : List Nat} (h : WaJ f d r t a j S) (hf : f a j = false) : WaJ f d r t a (j + 1) S := by
  refine ⟨h.len, h.up, h.lo, fun b hb => ?_⟩
  have := h.part b hb
  by_cases e : b = j
  · subst e
    rw [if_neg (by omega)] at this
    rw [if_pos (by omega), gM_no hf]; exact this
  · by_cases hl : b < j
    · rw [if_pos hl] at this; rw [if_pos (by omega)]; exact this
    · rw [if_neg hl] at this; rw [if_neg (by omega)]; exact this
theorem WaJ.step {f q : Nat → Nat → Bool} {d : Nat → Nat} {r t a j : Nat} {S : List Nat} (G : Goes f q r) (h : WaJ f d r t a j S) (hf : f a j = true) : WaJ f d r t a (j + 1) (S.set j (max (S.getD j 0) (S.getD a 0 + d a))) := by
  obtain ⟨ha, hj, _⟩ := G.imp _ _ hf
  have hs := G.sum_up (d := d) hf
  have hua := h.up a ha
  have huj := h.up j hj
  have hla := h.lo a ha
  have hg : ∀ b, (S.set j (max (S.getD j 0) (S.getD a 0 + d a))).getD b 0 = if b = j then max (S.getD j 0) (S.getD a 0 + d a) else S.getD b 0 := fun b => getD_set S j b _ (by rw [h.len]; exact hj)
  refine ⟨by rw [List.length_set]; exact h.len, fun b hb => ?_, fun b hb => ?_, fun b hb => ?_⟩
  · rw [hg]; split
    · next e => subst e; omega
    · exact h.up b hb
  · rw [hg]; split
    · next e => subst e; have := h.lo b hb; omega
    · exact h.lo b hb
  · have := h.part b hb
    rw [hg]
    by_cases e : b = j
    · subst e
      rw [if_neg (by omega)] at this
      rw [if_pos (by omega), if_pos rfl, gM_yes hf]
      show max _ (wK f d r t a + d a) ≤ _
      omega
    · rw [if_neg e]
      by_cases hl : b < j
      · rw [if_pos hl] at this; rw [if_pos (by omega)]; exact this
      · rw [if_neg hl] at this; rw [if_neg (by omega)]; exact this
theorem WaJ.row {f : Nat → Nat → Bool} {d : Nat → Nat} {r t a : Nat} {S : List Nat} (h : WaJ f d r t a r S) : WaJ f d r t (a + 1) 0 S :=
  ⟨h.len, h.up, h.lo, fun b hb => by have := h.part b hb; rw [if_pos hb] at this; rw [if_neg (by omega)]; exact this⟩
theorem WaJ.round {f : Nat → Nat → Bool} {d : Nat → Nat} {r t : Nat} {S : List Nat} (h : WaJ f d r t r 0 S) : WaJ f d r (t + 1) 0 0 S :=
  ⟨h.len, h.up, fun b hb => by have := h.part b hb; rw [if_neg (by omega)] at this; exact this, fun b hb => by rw [if_neg (by omega)]; exact Nat.zero_le _⟩
theorem WaJ.done {f : Nat → Nat → Bool} {d : Nat → Nat} {r : Nat} {S : List Nat} (h : WaJ f d r r 0 0 S) : S = sumL f d r := by
  refine list_getD_ext (by rw [h.len, sumL_len]) fun b hb => ?_
  rw [h.len] at hb
  rw [sumL_at hb]
  have h1 := h.up b hb
  have h2 := h.lo b hb
  unfold sumS at h1 ⊢
  omega

/-! # going along a line -/
/-- the rooms in a line -/
structure Srt (q : Nat → Nat → Bool) (r : Nat) (ln : List Nat) : Prop where
  len : ln.length = r
  lt : ∀ i, i < r → ln.getD i 0 < r
  ord : ∀ i j, i < j → j < r → q (ln.getD i 0) (ln.getD j 0) = true
  all : ∀ x, x < r → ∃ i, i < r ∧ ln.getD i 0 = x
theorem Srt.inj {q : Nat → Nat → Bool} {r : Nat} {ln : List Nat} (L : Lin q r) (h : Srt q r ln) {i j : Nat} (hi : i < r) (hj : j < r) (e : ln.getD i 0 = ln.getD j 0) : i = j := by
  rcases Nat.lt_trichotomy i j with h1 | h1 | h1
  · have := h.ord i j h1 hj; rw [e, L.irr _ (h.lt j hj)] at this; cases this
  · exact h1
  · have := h.ord j i h1 hi; rw [e, L.irr _ (h.lt j hj)] at this; cases this
theorem Srt.ahead {f q : Nat → Nat → Bool} {r : Nat} {ln : List Nat} (G : Goes f q r) (h : Srt q r ln) {k j : Nat} (hk : k < r) (hj : j < r) (hf : f (ln.getD j 0) (ln.getD k 0) = true) : j < k := by
  have hq := (G.imp _ _ hf).2.2
  rcases Nat.lt_trichotomy j k with h1 | h1 | h1
  · exact h1
  · subst h1; rw [G.lin.irr _ (h.lt j hj)] at hq; cases hq
  · have := h.ord k j h1 hj
    have := G.lin.trans _ _ _ (h.lt k hk) (h.lt j hj) (h.lt k hk) this hq
    rw [G.lin.irr _ (h.lt k hk)] at this; cases this
/-- of the rooms ahead in the line -/
def gL (f : Nat → Nat → Bool) (v : Nat → Nat) (ln : List Nat) (b i : Nat) : Nat := gM (fun j b => f (ln.getD j 0) b) (fun j => v (ln.getD j 0)) b i
theorem gL_all {f q : Nat → Nat → Bool} {r : Nat} {d : Nat → Nat} {ln : List Nat} (G : Goes f q r) (h : Srt q r ln) {k : Nat} (hk : k < r) : gL f (fun a => sumS f d r a + d a) ln (ln.getD k 0) k = sumS f d r (ln.getD k 0) := by
  apply Nat.le_antisymm
  · unfold gL; rw [gM_le]; exact fun a _ hf => G.sum_up hf
  · rcases G.sum_some (d := d) (h.lt k hk) with e | ⟨a, ha, hf, e⟩
    · rw [e]; exact Nat.zero_le _
    · obtain ⟨j, hj, rfl⟩ := h.all a ha
      rw [e]
      unfold gL
      exact (gM_le (f := fun j b => f (ln.getD j 0) b) (v := fun j => sumS f d r (ln.getD j 0) + d (ln.getD j 0)) k).1 (Nat.le_refl _) j (h.ahead G hk hj hf) hf
theorem gL_no {f : Nat → Nat → Bool} {v : Nat → Nat} {ln : List Nat} {b i : Nat} (h : f (ln.getD i 0) b = false) : gL f v ln b (i + 1) = gL f v ln b i := gM_no (f := fun j b => f (ln.getD j 0) b) h
theorem gL_yes {f : Nat → Nat → Bool} {v : Nat → Nat} {ln : List Nat} {b i : Nat} (h : f (ln.getD i 0) b = true) : gL f v ln b (i + 1) = max (gL f v ln b i) (v (ln.getD i 0)) := gM_yes (f := fun j b => f (ln.getD j 0) b) (v := fun j => v (ln.getD j 0)) h
theorem zeros_at (r b : Nat) : (List.replicate r 0).getD b 0 = 0 := by
  rw [List.getD_eq_getElem?_getD, List.getElem?_replicate]
  split <;> rfl
structure AhS (f : Nat → Nat → Bool) (d : Nat → Nat) (r : Nat) (ln : List Nat) (k i : Nat) (S : List Nat) : Prop where
  len : S.length = r
  did : ∀ j, j < k → S.getD (ln.getD j 0) 0 = sumS f d r (ln.getD j 0)
  now : k < r → S.getD (ln.getD k 0) 0 = gL f (fun a => sumS f d r a + d a) ln (ln.getD k 0) i
  rest : ∀ j, k < j → j < r → S.getD (ln.getD j 0) 0 = 0
theorem AhS.start {f : Nat → Nat → Bool} {d : Nat → Nat} {q : Nat → Nat → Bool} {r : Nat} {ln : List Nat} (_h : Srt q r ln) : AhS f d r ln 0 0 (List.replicate r 0) :=
  ⟨by simp, fun j hj => by omega, fun _ => by rw [zeros_at]; rfl, fun j _ _ => zeros_at _ _⟩
theorem AhS.skip {f : Nat → Nat → Bool} {d : Nat → Nat} {r : Nat} {ln : List Nat} {k i : Nat} {S : List Nat} (h : AhS f d r ln k i S) (hf : f (ln.getD i 0) (ln.getD k 0) = false) : AhS f d r ln k (i + 1) S :=
  ⟨h.len, h.did, fun hk => by rw [h.now hk, gL_no hf], h.rest⟩
theorem AhS.step {f q : Nat → Nat → Bool} {d : Nat → Nat} {r : Nat} {ln : List Nat} {k i : Nat} {S : List Nat} (L : Lin q r) (s : Srt q r ln) (h : AhS f d r ln k i S) (hk : k < r) (hi : i < k) (hf : f (ln.getD i 0) (ln.getD k 0) = true) :
    AhS f d r ln k (i + 1) (S.set (ln.getD k 0) (max (S.getD (ln.getD k 0) 0) (S.getD (ln.getD i 0) 0 + d (ln.getD i 0)))) := by
  have hg : ∀ b, (S.set (ln.getD k 0) (max (S.getD (ln.getD k 0) 0) (S.getD (ln.getD i 0) 0 + d (ln.getD i 0)))).getD b 0 = if b = ln.getD k 0 then max (S.getD (ln.getD k 0) 0) (S.getD (ln.getD i 0) 0 + d (ln.getD i 0)) else S.getD b 0 := fun b => getD_set S _ b _ (by rw [h.len]; exact s.lt k hk)
  refine ⟨by rw [List.length_set]; exact h.len, fun j hj => ?_, fun _ => ?_, fun j hj hjr => ?_⟩
  · rw [hg, if_neg (fun e => by have := s.inj L (by omega) hk e; omega)]; exact h.did j hj
  · rw [hg, if_pos rfl, h.now hk, h.did i hi, gL_yes hf]
  · rw [hg, if_neg (fun e => by have := s.inj L hjr hk e; omega)]; exact h.rest j hj hjr
theorem AhS.next {f q : Nat → Nat → Bool} {d : Nat → Nat} {r : Nat} {ln : List Nat} {k : Nat} {S : List Nat} (G : Goes f q r) (s : Srt q r ln) (h : AhS f d r ln k k S) (hk : k < r) : AhS f d r ln (k + 1) 0 S := by
  refine ⟨h.len, fun j hj => ?_, fun hk2 => ?_, fun j hj hjr => h.rest j (by omega) hjr⟩
  · by_cases e : j = k
    · subst e; rw [h.now hk, gL_all G s hk]
    · exact h.did j (by omega)
  · rw [h.rest (k + 1) (by omega) hk2]; rfl
theorem AhS.done {f q : Nat → Nat → Bool} {d : Nat → Nat} {r : Nat} {ln : List Nat} {S : List Nat} (s : Srt q r ln) (h : AhS f d r ln r 0 S) : S = sumL f d r := by
  refine list_getD_ext (by rw [h.len, sumL_len]) fun b hb => ?_
  rw [h.len] at hb
  rw [sumL_at hb]
  obtain ⟨j, hj, rfl⟩ := s.all b hb
  exact h.did j hj
theorem AhS.few {f q : Nat → Nat → Bool} {d : Nat → Nat} {r : Nat} {ln : List Nat} {k i : Nat} {S : List Nat} (G : Goes f q r) (s : Srt q r ln) (h : AhS f d r ln k i S) (hk : k < r) (hik : i ≤ k) : ∀ b, b < r → S.getD b 0 ≤ sumS f d r b := by
  intro b hb
  obtain ⟨j, hj, rfl⟩ := s.all b hb
  rcases Nat.lt_trichotomy j k with h1 | h1 | h1
  · rw [h.did j h1]; exact Nat.le_refl _
  · subst h1
    rw [h.now hk]
    unfold gL; rw [gM_le]; exact fun a _ hf => G.sum_up hf
  · rw [h.rest j h1 hj]; exact Nat.zero_le _

end Go.Proofs.Ytamfnahbhhmiiaa

/-
  Putting rooms in order one by one. (Plain mathematics: no function is named.)
-/
namespace Go.Proofs.Ytamfnahbhhmiiaa

def swapL (L : List Nat) (j : Nat) : List Nat := (L.set j (L.getD (j - 1) 0)).set (j - 1) (L.getD j 0)
theorem swapL_len (L : List Nat) (j : Nat) : (swapL L j).length = L.length := by simp [swapL]
theorem swapL_at {L : List Nat} {j : Nat} (h1 : 1 ≤ j) (hj : j < L.length) (x : Nat) : (swapL L j).getD x 0 = if x = j - 1 then L.getD j 0 else if x = j then L.getD (j - 1) 0 else L.getD x 0 := by
  unfold swapL
  rw [getD_set _ _ _ _ (by rw [List.length_set]; omega), getD_set _ _ _ _ hj]
structure Ins (q : Nat → Nat → Bool) (r i : Nat) (L : List Nat) : Prop where
  len : L.length = r
  lt : ∀ x, x < r → L.getD x 0 < r
  inj : ∀ x y, x < r → y < r → L.getD x 0 = L.getD y 0 → x = y
  ord : ∀ x y, x < y → y < i → q (L.getD x 0) (L.getD y 0) = true
structure InJ (q : Nat → Nat → Bool) (r i j : Nat) (L : List Nat) : Prop where
  len : L.length = r
  lt : ∀ x, x < r → L.getD x 0 < r
  inj : ∀ x y, x < r → y < r → L.getD x 0 = L.getD y 0 → x = y
  hi : i < r
  hj : j ≤ i
  ord : ∀ x y, x < y → y ≤ i → x ≠ j → y ≠ j → q (L.getD x 0) (L.getD y 0) = true
  fst : ∀ y, j < y → y ≤ i → q (L.getD j 0) (L.getD y 0) = true
theorem Ins.start (q : Nat → Nat → Bool) (r : Nat) : Ins q r 1 (List.range r) := by
  have hg : ∀ x, x < r → (List.range r).getD x 0 = x := fun x hx => by simp [hx]
  exact ⟨by simp, fun x hx => by rw [hg x hx]; exact hx, fun x y hx hy e => by rwa [hg x hx, hg y hy] at e, fun x y h1 h2 => by omega⟩
theorem Ins.inner {q : Nat → Nat → Bool} {r i : Nat} {L : List Nat} (h : Ins q r i L) (hi : i < r) : InJ q r i i L :=
  ⟨h.len, h.lt, h.inj, hi, Nat.le_refl _, fun x y h1 h2 _ h4 => h.ord x y h1 (by omega), fun y h1 h2 => by omega⟩
theorem InJ.swap {q : Nat → Nat → Bool} {r i j : Nat} {L : List Nat} (h : InJ q r i j L) (h1 : 1 ≤ j) (hq : q (L.getD j 0) (L.getD (j - 1) 0) = true) : InJ q r i (j - 1) (swapL L j) := by
  have hjr : j < L.length := by rw [h.len]; have := h.hi; have := h.hj; omega
  have hjr2 : j < r := by rw [← h.len]; exact hjr
  have hji := h.hj
  have hat := fun x => swapL_at h1 hjr x
  refine ⟨by rw [swapL_len]; exact h.len, fun x hx => ?_, fun x y hx hy e => ?_, h.hi, by omega, fun x y hxy hy hx1 hy1 => ?_, fun y hy1 hy => ?_⟩
  · rw [hat]; split
    · exact h.lt _ hjr2
    · split
      · exact h.lt _ (by omega)
      · exact h.lt x hx
  · rw [hat, hat] at e
    by_cases a1 : x = j - 1
    · by_cases a2 : y = j - 1
      · omega
      · rw [if_pos a1, if_neg a2] at e
        by_cases a3 : y = j
        · rw [if_pos a3] at e; have := h.inj _ _ hjr2 (by omega) e; omega
        · rw [if_neg a3] at e; have := h.inj _ _ hjr2 hy e; omega
    · rw [if_neg a1] at e
      by_cases a2 : y = j - 1
      · rw [if_pos a2] at e
        by_cases a3 : x = j
        · rw [if_pos a3] at e; have := h.inj _ _ (by omega) hjr2 e; omega
        · rw [if_neg a3] at e; have := h.inj _ _ hx hjr2 e; omega
      · rw [if_neg a2] at e
        by_cases a3 : x = j
        · rw [if_pos a3] at e
          by_cases a4 : y = j
          · omega
          · rw [if_neg a4] at e; have := h.inj _ _ (by omega) hy e; omega
        · rw [if_neg a3] at e
          by_cases a4 : y = j
          · rw [if_pos a4] at e; have := h.inj _ _ hx (by omega) e; omega
          · rw [if_neg a4] at e; exact h.inj _ _ hx hy e
  · rw [hat, hat, if_neg hx1, if_neg hy1]
    by_cases a3 : x = j
    · rw [if_pos a3, if_neg (by omega)]
      exact h.ord (j - 1) y (by omega) hy (by omega) (by omega)
    · rw [if_neg a3]
      by_cases a4 : y = j
      · rw [if_pos a4]; exact h.ord x (j - 1) (by omega) (by omega) a3 (by omega)
      · rw [if_neg a4]; exact h.ord x y hxy hy a3 a4
  · rw [hat, hat, if_pos rfl, if_neg (by omega)]
    by_cases a4 : y = j
    · rw [if_pos a4]; exact hq
    · rw [if_neg a4]; exact h.fst y (by omega) hy
theorem InJ.stop0 {q : Nat → Nat → Bool} {r i : Nat} {L : List Nat} (h : InJ q r i 0 L) : Ins q r (i + 1) L :=
  ⟨h.len, h.lt, h.inj, fun x y hxy hy => by
    by_cases e : x = 0
    · subst e; exact h.fst y hxy (by omega)
    · exact h.ord x y hxy (by omega) e (by omega)⟩
theorem InJ.stop {q : Nat → Nat → Bool} {r i j : Nat} {L : List Nat} (G : Lin q r) (h : InJ q r i j L) (h1 : 1 ≤ j) (hq : q (L.getD j 0) (L.getD (j - 1) 0) = false) : Ins q r (i + 1) L := by
  have hi := h.hi
  have hj := h.hj
  have hb : q (L.getD (j - 1) 0) (L.getD j 0) = true := by
    rcases G.all _ _ (h.lt (j - 1) (by omega)) (h.lt j (by omega)) (fun e => by have := h.inj _ _ (by omega) (by omega) e; omega) with k | k
    · exact k
    · rw [hq] at k; cases k
  refine ⟨h.len, h.lt, h.inj, fun x y hxy hy => ?_⟩
  by_cases a1 : x = j
  · subst a1; exact h.fst y hxy (by omega)
  · by_cases a2 : y = j
    · subst a2
      by_cases a3 : x = y - 1
      · subst a3; exact hb
      · exact G.trans _ _ _ (h.lt x (by omega)) (h.lt _ (by omega)) (h.lt _ (by omega)) (h.ord x (y - 1) (by omega) (by omega) a1 (by omega)) hb
    · exact h.ord x y hxy (by omega) a1 a2
theorem Ins.done {q : Nat → Nat → Bool} {r i : Nat} {L : List Nat} (G : Lin q r) (hir : r ≤ i) (h : Ins q r i L) : Srt q r L := by
  have ord : ∀ x y, x < y → y < r → q (L.getD x 0) (L.getD y 0) = true := fun x y h1 h2 => h.ord x y h1 (by omega)
  have lo : ∀ x, x < r → x ≤ placeN q r (L.getD x 0) := by
    intro x
    induction x with
    | zero => intro _; exact Nat.zero_le _
    | succ x ih =>
      intro hx
      have h1 := ih (by omega)
      have h2 := G.mono (h.lt x (by omega)) (h.lt (x + 1) hx) (ord x (x + 1) (by omega) hx)
      omega
  have hi2 : ∀ m x, x + m + 1 = r → placeN q r (L.getD x 0) ≤ x := by
    intro m
    induction m with
    | zero => intro x hx; have := G.lt (h.lt x (by omega)); omega
    | succ m ih =>
      intro x hx
      have h1 := ih (x + 1) (by omega)
      have h2 := G.mono (h.lt x (by omega)) (h.lt (x + 1) (by omega)) (ord x (x + 1) (by omega) (by omega))
      omega
  refine ⟨h.len, h.lt, ord, fun x hx => ⟨placeN q r x, G.lt hx, ?_⟩⟩
  have hp := G.lt hx
  have h1 := lo _ hp
  have h2 := hi2 (r - 1 - placeN q r x) (placeN q r x) (by omega)
  exact G.inj (h.lt _ hp) hx (Nat.le_antisymm h2 h1)

end Go.Proofs.Ytamfnahbhhmiiaa

/-
  Needs of rooms: what they are in memory, and how they are put in order. (Walks.)
-/
namespace Go.Proofs.Ytamfnahbhhmiiaa
open Go.RowKit

/-! # needs as cells -/
def ndL (d : Nat → Nat) (L : List Nat) : List Value := (List.range (2 * L.length)).map fun k => .int .i64 (((if k % 2 = 0 then L.getD (k / 2) 0 else d (L.getD (k / 2) 0)) : Nat) : Int)
def ndC (d : Nat → Nat) (L : List Nat) : Array Value := (ndL d L).toArray
def nd1 (d : Nat → Nat) (x : Nat) : Array Value := #[.int .i64 ((x : Nat) : Int), .int .i64 ((d x : Nat) : Int)]
theorem ndL_len (d : Nat → Nat) (L : List Nat) : (ndL d L).length = 2 * L.length := by simp [ndL]
theorem ndC_at {d : Nat → Nat} {L : List Nat} {k : Nat} (hk : k < 2 * L.length) : (ndC d L)[k]? = some (.int .i64 (((if k % 2 = 0 then L.getD (k / 2) 0 else d (L.getD (k / 2) 0)) : Nat) : Int)) := by
  unfold ndC ndL
  rw [List.getElem?_toArray, List.getElem?_map, List.getElem?_range hk]
  rfl
theorem ndC_lo {d : Nat → Nat} {L : List Nat} {i : Nat} (hi : i < L.length) : (ndC d L)[i * 2]? = some (.int .i64 ((L.getD i 0 : Nat) : Int)) := by
  rw [ndC_at (by omega), if_pos (by omega), show i * 2 / 2 = i by omega]
theorem ndC_hi {d : Nat → Nat} {L : List Nat} {i : Nat} (hi : i < L.length) : (ndC d L)[i * 2 + 1]? = some (.int .i64 ((d (L.getD i 0) : Nat) : Int)) := by
  rw [ndC_at (by omega), if_neg (by omega), show (i * 2 + 1) / 2 = i by omega]
theorem ndC_size (d : Nat → Nat) (L : List Nat) : (ndC d L).size = 2 * L.length := by unfold ndC; rw [List.size_toArray, ndL_len]
theorem ndC_put {d : Nat → Nat} {L : List Nat} {i : Nat} (hi : i < L.length) (x : Nat) : ((ndC d L).setIfInBounds (i * 2) (.int .i64 ((x : Nat) : Int))).setIfInBounds (i * 2 + 1) (.int .i64 ((d x : Nat) : Int)) = ndC d (L.set i x) := by
  apply Array.ext_getElem?
  intro k
  rw [Array.getElem?_setIfInBounds, Array.getElem?_setIfInBounds, Array.size_setIfInBounds, ndC_size]
  by_cases h2 : k < 2 * L.length
  · rw [ndC_at (L := L.set i x) (by rw [List.length_set]; exact h2), getD_set L i (k / 2) x hi]
    by_cases e1 : i * 2 + 1 = k
    · rw [if_pos e1, if_pos (by omega), if_neg (by omega), if_pos (by omega)]
    · rw [if_neg e1]
      by_cases e2 : i * 2 = k
      · rw [if_pos e2, if_pos (by omega), if_pos (by omega), if_pos (by omega)]
      · rw [if_neg e2, ndC_at h2, if_neg (show ¬ k / 2 = i by omega)]
  · rw [if_neg (by omega), if_neg (by omega), Array.getElem?_eq_none (by rw [ndC_size]; omega), Array.getElem?_eq_none (by rw [ndC_size, List.length_set]; omega)]
/-- needs ahead of what else a block holds -/
def ndX (d : Nat → Nat) (X : Array Value) (L : List Nat) : Array Value := ndC d L ++ X
theorem ndX_at {d : Nat → Nat} {X : Array Value} {L : List Nat} {k : Nat} (hk : k < 2 * L.length) : (ndX d X L)[k]? = (ndC d L)[k]? := by
  unfold ndX; rw [Array.getElem?_append_left (by rw [ndC_size]; exact hk)]
theorem ndX_lo {d : Nat → Nat} {X : Array Value} {L : List Nat} {i : Nat} (hi : i < L.length) : (ndX d X L)[i * 2]? = some (.int .i64 ((L.getD i 0 : Nat) : Int)) := by rw [ndX_at (by omega), ndC_lo hi]
theorem ndX_hi {d : Nat → Nat} {X : Array Value} {L : List Nat} {i : Nat} (hi : i < L.length) : (ndX d X L)[i * 2 + 1]? = some (.int .i64 ((d (L.getD i 0) : Nat) : Int)) := by rw [ndX_at (by omega), ndC_hi hi]
theorem app_set {A X : Array Value} {k : Nat} (hk : k < A.size) (u : Value) : (A ++ X).setIfInBounds k u = A.setIfInBounds k u ++ X := by
  apply Array.toList_inj.1
  rw [Array.toList_setIfInBounds, Array.toList_append, Array.toList_append, Array.toList_setIfInBounds, List.set_append_left _ _ (by rw [Array.length_toList]; exact hk)]
theorem ndX_put {d : Nat → Nat} {X : Array Value} {L : List Nat} {i : Nat} (hi : i < L.length) (x : Nat) : ((ndX d X L).setIfInBounds (i * 2) (.int .i64 ((x : Nat) : Int))).setIfInBounds (i * 2 + 1) (.int .i64 ((d x : Nat) : Int)) = ndX d X (L.set i x) := by
  unfold ndX
  rw [app_set (by rw [ndC_size]; omega), app_set (by rw [Array.size_setIfInBounds, ndC_size]; omega), ndC_put hi]
theorem nd_range {W : World} {g : Nat} {t : TypeId} {d : Nat → Nat} {X : Array Value} {L : List Nat} {i : Nat} (h : HeldB W g t (ndX d X L)) (hi : i < L.length) : W.rangeAt g (i * 2) (nd1 d (L.getD i 0)).toList := fun j v hv => by
  rcases j with _ | _ | j
  · rw [Nat.add_zero, h.cell, ndX_lo hi]; exact hv
  · rw [h.cell, ndX_hi hi]; exact hv
  · simp [nd1] at hv
theorem nd_there {W : World} {g : Nat} {t : TypeId} {d : Nat → Nat} {X : Array Value} {L : List Nat} {i : Nat} (h : HeldB W g t (ndX d X L)) (hi : i < L.length) : W.there g (i * 2) 2 := fun j hj => by
  refine ⟨?_, h.frozen _⟩
  rw [h.cell, ndX_at (by omega), ndC_at (by omega)]; rfl
theorem nd_put {W : World} {g : Nat} {t : TypeId} {d : Nat → Nat} {X : Array Value} {L : List Nat} {i : Nat} (h : HeldB W g t (ndX d X L)) (hi : i < L.length) (x : Nat) : HeldB (W.setCells g (i * 2) (nd1 d x).toList) g t (ndX d X (L.set i x)) := by
  rw [← ndX_put hi]
  exact (h.set (i * 2) _).set (i * 2 + 1) _
theorem ndX_cells {W : World} {g : Nat} {t : TypeId} {d : Nat → Nat} {X : Array Value} {L : List Nat} (h : HeldB W g t (ndX d X L)) : CellsAt W (some ⟨g, 0, none⟩) (ndL d L) := fun i u hu => by
  refine ⟨g, 0, rfl, ?_⟩
  have hi : i < 2 * L.length := by rw [← ndL_len d L]; exact (List.getElem?_eq_some_iff.1 hu).1
  rw [Nat.zero_add, h.cell, ndX_at hi]
  unfold ndC
  rw [List.getElem?_toArray]; exact hu
theorem nd_cells_range {W : World} {g : Nat} {d : Nat → Nat} {L : List Nat} {i : Nat} (h : CellsAt W (some ⟨g, 0, none⟩) (ndL d L)) (hi : i < L.length) : W.rangeAt g (i * 2) (nd1 d (L.getD i 0)).toList := fun j v hv => by
  have key : ∀ k u, (ndC d L)[k]? = some u → W.cell? ⟨g, k, none⟩ = some u := fun k u hu => by
    unfold ndC at hu
    rw [List.getElem?_toArray] at hu
    obtain ⟨b, off, e, hc⟩ := h k u hu
    cases e
    rwa [Nat.zero_add] at hc
  rcases j with _ | _ | j
  · rw [Nat.add_zero]; exact key _ _ ((ndC_lo hi).trans hv)
  · exact key _ _ ((ndC_hi hi).trans hv)
  · simp [nd1] at hv
theorem nd_grown (w : World) (g i : Nat) (d : Nat → Nat) (x : Nat) : w.grownBy (w.setCells g (i * 2) (nd1 d x).toList) (some g) :=
  grownBy_trans (gbCell w g (i * 2) _) (gbCell _ g (i * 2 + 1) _)
theorem nd_one (d : Nat → Nat) (x : Nat) : (nd1 d x).all (·.oneCell') = true := Array.all_eq_true_iff_forall_mem.2 fun v hv => by
  simp only [nd1, List.mem_toArray, List.mem_cons, List.not_mem_nil, or_false] at hv
  rcases hv with rfl | rfl <;> rfl
/-! # a drawing -/
def dwC (O : Array Value) (way : Int) (v : Value) : Array Value := O ++ #[.int .i64 way, v]
theorem dwC_size {O : Array Value} (h : O.size = 201) (way : Int) (v : Value) : (dwC O way v).size = 203 := by simp [dwC, h]
theorem dwC_lo {O : Array Value} {k : Nat} (hk : k < O.size) (way : Int) (v : Value) : (dwC O way v)[k]? = O[k]? := by
  unfold dwC; rw [Array.getElem?_append_left hk]
theorem dwC_way {O : Array Value} (h : O.size = 201) (way : Int) (v : Value) : (dwC O way v)[201]? = some (.int .i64 way) := by
  unfold dwC; rw [Array.getElem?_append_right (by omega), h]; rfl
theorem dwC_needs {O : Array Value} (h : O.size = 201) (way : Int) (v : Value) : (dwC O way v)[202]? = some v := by
  unfold dwC; rw [Array.getElem?_append_right (by omega), h]; rfl
theorem dw_order {W : World} {B : Nat} {t : TypeId} {O : Array Value} {way : Int} {v : Value} (h : HeldB W B t (dwC O way v)) : W.rangeAt B 0 O.toList := fun j x hx => by
  rw [Nat.zero_add, h.cell, dwC_lo (by rw [← Array.length_toList]; exact (List.getElem?_eq_some_iff.1 hx).1), ← Array.getElem?_toList]; exact hx
theorem or_info {O : Array Value} (h : O.size = 201) : (Try.prog.info? 63).map (·.size) = some O.toList.length := by rw [Array.length_toList, h]; kernel_rfl

/-! # which of two needs is put ahead -/
def cmpQ (q : Nat → Nat → Bool) (a b : Nat) : Int := if q a b = true then -1 else if q b a = true then 1 else 0
end Go.Proofs.Ytamfnahbhhmiiaa

/-
  Needs are put in order: the insertion sort of slices.SortFunc. (Walks.)
-/
namespace Go.Proofs.Ytamfnahbhhmiiaa
open Go.RowKit

theorem cmpQ_yes {q : Nat → Nat → Bool} {a b : Nat} (h : q a b = true) : cmpQ q a b = -1 := by unfold cmpQ; rw [if_pos h]
theorem cmpQ_no {q : Nat → Nat → Bool} {a b : Nat} (h : q a b = false) : ∃ c : Nat, cmpQ q a b = (c : Int) := by
  unfold cmpQ
  rw [h]
  cases q b a
  · exact ⟨0, rfl⟩
  · exact ⟨1, rfl⟩
end Go.Proofs.Ytamfnahbhhmiiaa

/-
  Needs are put in order: slices.SortFunc. (Walks.)
-/
namespace Go.Proofs.Ytamfnahbhhmiiaa
open Go.RowKit

end Go.Proofs.Ytamfnahbhhmiiaa

/-
  The program's greatest sums of needs, and the least width. (Walks.)
-/
namespace Go.Proofs.Ytamfnahbhhmiiaa
open Go.RowKit

theorem ndL_one (d : Nat → Nat) (L : List Nat) : ∀ v ∈ ndL d L, v.oneCell' = true := fun v hv => by
  unfold ndL at hv
  obtain ⟨_, _, rfl⟩ := List.mem_map.1 hv
  rfl
theorem max_sum (y x e : Nat) : (if (y : Int) < (x : Int) + (e : Int) then (x : Int) + (e : Int) else (y : Int)) = ((max y (x + e) : Nat) : Int) := by split <;> omega

end Go.Proofs.Ytamfnahbhhmiiaa

/-
  The program's least width of a drawing. (Walks.)
-/
namespace Go.Proofs.Ytamfnahbhhmiiaa
open Go.RowKit

theorem range_at {r k : Nat} (hk : k < r) : (List.range r).getD k 0 = k := by simp [hk]
end Go.Proofs.Ytamfnahbhhmiiaa

/-
  Merged texts: SizS SizC SizU.
-/
/-
  The model's least widths. (Walks.)
-/
namespace Go.Proofs.Ytamfnahbhhmiiaa
open Go.RowKit

/-- the needs of a list -/
def dN (l : List Int) (a : Nat) : Nat := (l.getD a 0).toNat
/-- may a list be needs of a plan -/
def needB (l : List Int) : Bool := l.all fun x => decide (1 ≤ x) && decide (x ≤ 9)
def sizedB (p : List ByteArray) (l : List Int) : Bool := plainB p && (decide (l.length = gridR p) && needB l)
theorem needB_at {l : List Int} (h : needB l = true) {a : Nat} (ha : a < l.length) : l.getD a 0 = ((dN l a : Nat) : Int) ∧ 1 ≤ dN l a ∧ dN l a ≤ 9 := by
  unfold needB at h
  rw [List.all_eq_true] at h
  have := h (l.getD a 0) (by rw [List.getD_eq_getElem?_getD, List.getElem?_eq_getElem ha]; exact List.getElem_mem ha)
  rw [Bool.and_eq_true, decide_eq_true_eq, decide_eq_true_eq] at this
  unfold dN
  omega
theorem needB_take {l : List Int} {i : Nat} (hi : i < l.length) : needB (l.take (i + 1)) = (needB (l.take i) && (decide (1 ≤ l.getD i 0) && decide (l.getD i 0 ≤ 9))) := by
  unfold needB
  rw [take_succ_getD l i 0 hi, List.all_append]
  simp
theorem needB_stop {l : List Int} {i : Nat} (hi : i < l.length) (h : (decide (1 ≤ l.getD i 0) && decide (l.getD i 0 ≤ 9)) = false) : needB l = false := by
  cases hn : needB l
  · rfl
  · have := needB_at hn hi
    rw [Bool.and_eq_false_iff, decide_eq_false_iff_not, decide_eq_false_iff_not] at h
    omega
theorem sizedB_yes {p : List ByteArray} {l : List Int} (h : sizedB p l = true) : plainB p = true ∧ l.length = gridR p ∧ needB l = true := by
  unfold sizedB at h
  rw [Bool.and_eq_true, Bool.and_eq_true, decide_eq_true_eq] at h
  exact h

theorem max_sumS (y x e : Nat) : (if (y : Int) < (x : Int) + (e : Int) then (x : Int) + (e : Int) else (y : Int)) = ((max y (x + e) : Nat) : Int) := by split <;> omega
def PzSt (w : World) (gs : Nat) (S0 S : List Nat) (wr : World) : Prop := HeldB wr gs 3 (setsV S0) ∧ HeldB wr w.heap.size 3 (setsV S) ∧ Below w.heap.size w wr
theorem PzSt.put {w : World} {gs : Nat} {S0 S T : List Nat} {wr : World} (h : PzSt w gs S0 S wr) (hgn : gs ≠ w.heap.size) (x m : Nat) (hT : S.set x m = T) : PzSt w gs S0 T (wr.setCell ⟨w.heap.size, x, none⟩ (.int .i64 (m : Nat))) := by
  refine ⟨h.1.other (by simpa using hgn) _, ?_, h.2.2.setCell (Nat.le_refl _) _⟩
  rw [← hT, ← setsV_put]
  exact h.2.1.set x _
theorem PzSt.drew {w : World} {gs : Nat} {S0 S : List Nat} {wr : World} (h : PzSt w gs S0 S wr) : PzSt w gs S0 S wr.drew := ⟨h.1.drew, h.2.1.drew, h.2.2.drew⟩
end Go.Proofs.Ytamfnahbhhmiiaa

/-
  The program's drawings: none, and those of a plan with needs. (Walks.)
-/
namespace Go.Proofs.Ytamfnahbhhmiiaa
open Go.RowKit

/-! # a drawing of nothing -/
def noDw : Array Value := dwC (ordC zeroC noF) 0 (.slice none 0 0)
theorem zeroO_size : (ordC zeroC noF).size = 201 := ordC_size (planC_size 0 0 0 (fun _ _ => 0)) noF
theorem noDw_size : noDw.size = 203 := dwC_size zeroO_size _ _
theorem noDw_2 : noDw[2]? = some (.int .i64 ((0 : Nat) : Int)) := by
  unfold noDw
  rw [dwC_lo (by rw [zeroO_size]; omega), ordC_lo noF (by rw [show zeroC.size = 39 from planC_size 0 0 0 (fun _ _ => 0)]; omega)]
  rfl
theorem noDw_n : noDw[202]? = some (.slice none 0 0) := dwC_needs zeroO_size _ _
set_option maxRecDepth 100000 in
theorem noDw_one : noDw.all (·.oneCell') = true := by kernel_rfl
set_option maxRecDepth 100000 in
theorem noDw_lit : noDw = #[.int .i64 0, .int .i64 0, .int .i64 0, .int .i64 0, .int .i64 0, .int .i64 0, .int .i64 0, .int .i64 0, .int .i64 0, .int .i64 0, .int .i64 0, .int .i64 0, .int .i64 0, .int .i64 0, .int .i64 0, .int .i64 0, .int .i64 0, .int .i64 0, .int .i64 0, .int .i64 0, .int .i64 0, .int .i64 0, .int .i64 0, .int .i64 0, .int .i64 0, .int .i64 0, .int .i64 0, .int .i64 0, .int .i64 0, .int .i64 0, .int .i64 0, .int .i64 0, .int .i64 0, .int .i64 0, .int .i64 0, .int .i64 0, .int .i64 0, .int .i64 0, .int .i64 0, .bool false, .bool false, .bool false, .bool false, .bool false, .bool false, .bool false, .bool false, .bool false, .bool false, .bool false, .bool false, .bool false, .bool false, .bool false, .bool false, .bool false, .bool false, .bool false, .bool false, .bool false, .bool false, .bool false, .bool false, .bool false, .bool false, .bool false, .bool false, .bool false, .bool false, .bool false, .bool false, .bool false, .bool false, .bool false, .bool false, .bool false, .bool false, .bool false, .bool false, .bool false, .bool false, .bool false, .bool false, .bool false, .bool false, .bool false, .bool false, .bool false, .bool false, .bool false, .bool false, .bool false, .bool false, .bool false, .bool false, .bool false, .bool false, .bool false, .bool false, .bool false, .bool false, .bool false, .bool false, .bool false, .bool false, .bool false, .bool false, .bool false, .bool false, .bool false, .bool false, .bool false, .bool false, .bool false, .bool false, .bool false, .bool false, .bool false, .bool false, .bool false, .bool false, .bool false, .bool false, .bool false, .bool false, .bool false, .bool false, .bool false, .bool false, .bool false, .bool false, .bool false, .bool false, .bool false, .bool false, .bool false, .bool false, .bool false, .bool false, .bool false, .bool false, .bool false, .bool false, .bool false, .bool false, .bool false, .bool false, .bool false, .bool false, .bool false, .bool false, .bool false, .bool false, .bool false, .bool false, .bool false, .bool false, .bool false, .bool false, .bool false, .bool false, .bool false, .bool false, .bool false, .bool false, .bool false, .bool false, .bool false, .bool false, .bool false, .bool false, .bool false, .bool false, .bool false, .bool false, .bool false, .bool false, .bool false, .bool false, .bool false, .bool false, .bool false, .bool false, .bool false, .bool false, .bool false, .bool false, .bool false, .bool false, .bool false, .bool false, .bool false, .bool false, .bool false, .bool false, .bool false, .bool false, .bool false, .bool false, .bool false, .bool false, .int .i64 0, .slice none 0 0] := by kernel_rfl
end Go.Proofs.Ytamfnahbhhmiiaa

/-
  Merged texts: SizD SizE SizT.
-/
/-
  The program's drawing of a plan with a list of needs. (Walks.)
-/
namespace Go.Proofs.Ytamfnahbhhmiiaa
open Go.RowKit

theorem ndL_succ (d : Nat → Nat) (i : Nat) : ndL d (List.range (i + 1)) = ndL d (List.range i) ++ (nd1 d i).toList := by
  have h1 := ndC_put (d := d) (L := List.range (i + 1)) (i := i) (by simp) i
  apply List.ext_getElem?
  intro k
  have e1 : ∀ n k, k < 2 * n → (ndL d (List.range n))[k]? = some (.int .i64 (((if k % 2 = 0 then k / 2 else d (k / 2)) : Nat) : Int)) := fun n k hk => by
    have := ndC_at (d := d) (L := List.range n) (k := k) (by rw [List.length_range]; exact hk)
    unfold ndC at this
    rw [List.getElem?_toArray, range_at (by omega)] at this
    exact this
  by_cases hk : k < 2 * i
  · rw [e1 _ _ (by omega), List.getElem?_append_left (by rw [ndL_len, List.length_range]; exact hk), e1 _ _ hk]
  · rw [List.getElem?_append_right (by rw [ndL_len, List.length_range]; omega), ndL_len, List.length_range]
    by_cases hk2 : k < 2 * (i + 1)
    · rw [e1 _ _ hk2]
      have hc : k = 2 * i ∨ k = 2 * i + 1 := by omega
      rcases hc with rfl | rfl
      · rw [if_pos (by omega), Nat.sub_self, show 2 * i / 2 = i by omega]; rfl
      · rw [if_neg (by omega), show 2 * i + 1 - 2 * i = 1 by omega, show (2 * i + 1) / 2 = i by omega]; rfl
    · rw [List.getElem?_eq_none (by rw [ndL_len, List.length_range]; omega), List.getElem?_eq_none (by simp [nd1]; omega)]
/-- what is told of a drawing -/
def DwRet (base : Nat) (O : Array Value) (way : Int) (r : Nat) (l : List Int) (b : Bool) (e : Ending) (w' : World) : Prop :=
  ∃ D, e = .returned (.tuple #[.agg D, .bool b]) ∧ (b = false → D = noDw) ∧ (b = true → ∃ gn cn, D = dwC O way (.slice (some ⟨gn, 0, none⟩) r cn) ∧ base ≤ gn ∧ CellsAt w' (some ⟨gn, 0, none⟩) (ndL (dN l) (List.range r)))
theorem nd1_ones (x y : Int) : ∀ v ∈ [Value.int .i64 x, .int .i64 y], v.oneCell' = true := fun v hv => by
  simp only [List.mem_cons, List.not_mem_nil, or_false] at hv
  rcases hv with rfl | rfl <;> rfl
theorem cells_setRow {W : World} {g B : Nat} {xs : List Value} (h : CellsAt W (some ⟨g, 0, none⟩) xs) (hne : g ≠ B) (cs : Array Value) : CellsAt (W.setRow B cs) (some ⟨g, 0, none⟩) xs := fun i u hu => by
  obtain ⟨b, off, e, hc⟩ := h i u hu
  cases e
  refine ⟨g, 0, rfl, ?_⟩
  unfold World.cell? at hc ⊢
  rw [setRow_other W B g cs hne]
  exact hc
theorem sizedB_is {p : List ByteArray} {l : List Int} (h : plainB p = true) : sizedB p l = (decide (l.length = gridR p) && needB l) := by unfold sizedB; rw [h, Bool.true_and]
theorem DwRet.below {base : Nat} {O : Array Value} {way : Int} {r : Nat} {l : List Int} {b : Bool} {e : Ending} {w w' : World} (h : DwRet base O way r l b e w) (hb : Below w.heap.size w w') : DwRet base O way r l b e w' := by
  obtain ⟨D, h1, h2, h3⟩ := h
  exact ⟨D, h1, h2, fun hh => by obtain ⟨gn, cn, h4, h6, h5⟩ := h3 hh; exact ⟨gn, cn, h4, h6, h5.below hb⟩⟩
end Go.Proofs.Ytamfnahbhhmiiaa

/-
  The program's least widths and heights, and places. (Walks.)
-/
namespace Go.Proofs.Ytamfnahbhhmiiaa
open Go.RowKit

/-- the least width, or the least height -/
def wideV (p : List ByteArray) (l : List Int) (way : Nat) : Nat := if sizedB p l = true then endS (pL p way) (dN l) (gridR p) else 0
def placesV (p : List ByteArray) (l : List Int) (way : Nat) : List Nat := if sizedB p l = true then sumL (pL p way) (dN l) (gridR p) else []
theorem sized_facts {p : List ByteArray} {l : List Int} (h : sizedB p l = true) : plainB p = true ∧ l.length = gridR p ∧ needB l = true ∧ gridR p ≤ 9 ∧ 1 ≤ gridR p ∧ ∀ a, a < gridR p → dN l a ≤ 9 := by
  obtain ⟨h1, h2, h3⟩ := sizedB_yes h
  have hP := planP_of (plainB_plan h1)
  have hg := gridG_lt (p := p) (i := 0) (j := 0) (by have := hP.grid.h1; omega) (by have := hP.grid.w1; omega)
  exact ⟨h1, h2, h3, hP.few, by omega, fun a ha => (needB_at h3 (by omega)).2.2⟩
theorem dw_any {base : Nat} {p : List ByteArray} {l : List Int} {way : Int} {e : Ending} {w' : World} (h : DwRet base (ordP p) way (gridR p) l (sizedB p l) e w') : ∃ D, e = .returned (.tuple #[.agg D, .bool (sizedB p l)]) ∧ D.size = 203 ∧ D.all (·.oneCell') = true ∧ (sizedB p l = false → D = noDw) ∧ (sizedB p l = true → ∃ gn cn, D = dwC (ordC (planC p.length (wideB p) (gridR p) (gridG p)) (pL p)) way (.slice (some ⟨gn, 0, none⟩) (gridR p) cn) ∧ CellsAt w' (some ⟨gn, 0, none⟩) (ndL (dN l) (List.range (gridR p)))) := by
  obtain ⟨D, h1, h2, h3⟩ := h
  cases hz : sizedB p l
  · rw [hz] at h1
    refine ⟨D, h1, by rw [h2 hz]; exact noDw_size, by rw [h2 hz]; exact noDw_one, fun _ => h2 hz, fun h => by cases h⟩
  · rw [hz] at h1
    obtain ⟨gn, cn, rfl, _, h5⟩ := h3 hz
    refine ⟨_, h1, dwC_size (ordP_size p) _ _, ?_, fun h => (by cases h), fun _ => ⟨gn, cn, ?_, h5⟩⟩
    · rw [Array.all_eq_true_iff_forall_mem]
      intro v hv
      unfold dwC at hv
      rw [Array.mem_append] at hv
      rcases hv with hv | hv
      · exact Array.all_eq_true_iff_forall_mem.1 (ordP_one p) v hv
      · simp only [List.mem_toArray, List.mem_cons, List.not_mem_nil, or_false] at hv
        rcases hv with rfl | rfl <;> rfl
    · rw [ordP_yes (sizedB_yes hz).1]; rfl
end Go.Proofs.Ytamfnahbhhmiiaa

/-
  The model's answers about sizes, and areas. (Walks.)
-/
namespace Go.Proofs.Ytamfnahbhhmiiaa
open Go.RowKit

theorem l6B_19 (x : Int) : l6B x 1 9 = (decide (1 ≤ x) && decide (x ≤ 9)) := by unfold l6B; rw [Bool.eq_iff_iff]; simp
theorem wideV_le (p : List ByteArray) (l : List Int) {way : Nat} (hw : way < 2) : wideV p l way ≤ 81 := by
  unfold wideV
  split
  · next hz =>
    obtain ⟨hp, _, _, hr9, _, hdd⟩ := sized_facts hz
    have G := pL_goes hp hw
    exact (eM_le _).2 fun a ha => by have := G.sum_few hdd ha hr9; have := hdd a ha; omega
  · omega
/-- the product of the least width and the least height -/
def areaZ (p : List ByteArray) (l m : List Int) : Nat := wideV p l 0 * wideV p m 1
theorem areaZ_no {p : List ByteArray} {l m : List Int} (h : (sizedB p l && sizedB p m) = false) : areaZ p l m = 0 := by
  unfold areaZ wideV
  cases h1 : sizedB p l
  · simp
  · cases h2 : sizedB p m
    · simp
    · rw [h1, h2] at h; cases h
theorem mul_bound {x y : Nat} (hx : x ≤ 81) (hy : y ≤ 81) : wrap64 ((x : Int) * (y : Int)) = ((x * y : Nat) : Int) := by
  have h1 : x * y ≤ 81 * 81 := Nat.mul_le_mul hx hy
  rw [← Int.natCast_mul]
  unfold wrap64
  omega
theorem placesV_few (p : List ByteArray) (l : List Int) : (intsL (placesV p l 0)).length ≤ 1048576 := by
  rw [intsL_len]
  unfold placesV
  split
  · next hz => rw [sumL_len]; have := (sized_facts hz).2.2.2.1; omega
  · exact Nat.zero_le _
end Go.Proofs.Ytamfnahbhhmiiaa

/-
  Merged texts: SizF SizG SizH SizI SizJ SizK.
-/
/-
  The comparison that puts needs in the same order from behind. (Walks.)
-/
namespace Go.Proofs.Ytamfnahbhhmiiaa
open Go.RowKit

/-- a question asked from behind -/
def flipQ (q : Nat → Nat → Bool) : Nat → Nat → Bool := fun a b => q b a
theorem Lin.flip {q : Nat → Nat → Bool} {r : Nat} (L : Lin q r) : Lin (flipQ q) r :=
  ⟨fun a ha => L.irr a ha, fun a b ha hb hne => (L.all a b ha hb hne).elim Or.inr Or.inl, fun a b c ha hb hc h1 h2 => L.trans c b a hc hb ha h2 h1⟩
theorem Goes.flip {f q : Nat → Nat → Bool} {r : Nat} (G : Goes f q r) : Goes (flipQ f) (flipQ q) r :=
  ⟨G.lin.flip, fun a b h => ⟨(G.imp b a h).2.1, (G.imp b a h).1, (G.imp b a h).2.2⟩⟩
theorem cmpQ_flip (q : Nat → Nat → Bool) (a b : Nat) : cmpQ q b a = cmpQ (flipQ q) a b := rfl
end Go.Proofs.Ytamfnahbhhmiiaa

/-
  Needs are put in order from behind: slices.SortFunc with the opposite comparison. (Walks.)
-/
namespace Go.Proofs.Ytamfnahbhhmiiaa
open Go.RowKit

end Go.Proofs.Ytamfnahbhhmiiaa

/-
  Greatest sums of needs from behind. (Walks.)
-/
namespace Go.Proofs.Ytamfnahbhhmiiaa
open Go.RowKit

end Go.Proofs.Ytamfnahbhhmiiaa

/-
  The program's slack of a drawing. (Walks.)
-/
namespace Go.Proofs.Ytamfnahbhhmiiaa
open Go.RowKit

theorem thru_le {f q : Nat → Nat → Bool} {r : Nat} {d : Nat → Nat} (G : Goes f q r) : ∀ k a, a < r → sumS f d r a + d a + wK (flipQ f) d r k a ≤ endS f d r
  | 0, a, ha => (eM_le (v := fun a => sumS f d r a + d a) r).1 (Nat.le_refl _) a ha
  | k + 1, a, ha => by
    have hv := gM_some (f := flipQ f) (v := fun b => wK (flipQ f) d r k b + d b) (b := a) r
    rw [wK_succ]
    rcases hv with h0 | ⟨b, hb, hf, he⟩
    · rw [h0]; exact (eM_le (v := fun a => sumS f d r a + d a) r).1 (Nat.le_refl _) a ha
    · rw [he]
      have h1 := thru_le (d := d) G k b hb
      have h2 := G.sum_up (d := d) (show f a b = true from hf)
      omega
/-- the slack of a room -/
def slN (f : Nat → Nat → Bool) (d : Nat → Nat) (r a : Nat) : Nat := endS f d r - sumS f d r a - d a - sumS (flipQ f) d r a
def slL (f : Nat → Nat → Bool) (d : Nat → Nat) (r : Nat) : List Nat := (List.range r).map (slN f d r)
theorem slL_len (f : Nat → Nat → Bool) (d : Nat → Nat) (r : Nat) : (slL f d r).length = r := by simp [slL]
theorem slN_int {f q : Nat → Nat → Bool} {r a : Nat} {d : Nat → Nat} (G : Goes f q r) (ha : a < r) : (endS f d r : Int) - (sumS f d r a : Int) - (d a : Int) - (sumS (flipQ f) d r a : Int) = ((slN f d r a : Nat) : Int) := by
  have := thru_le (d := d) G r a ha
  unfold slN sumS at *
  omega
/-- the slack of the first rooms -/
def slK (sl : Nat → Nat) (r k : Nat) : List Nat := (List.range r).map fun a => if a < k then sl a else 0
theorem slK_len (sl : Nat → Nat) (r k : Nat) : (slK sl r k).length = r := by simp [slK]
theorem slK_at {sl : Nat → Nat} {r k a : Nat} (ha : a < r) : (slK sl r k).getD a 0 = if a < k then sl a else 0 := by simp [slK, ha]
theorem slK_zero (sl : Nat → Nat) (r : Nat) : slK sl r 0 = List.replicate r 0 :=
  list_getD_ext (by simp [slK]) fun b hb => by rw [slK_len] at hb; rw [slK_at hb, zeros_at]; rfl
theorem slK_all (sl : Nat → Nat) (r : Nat) : slK sl r r = (List.range r).map sl :=
  list_getD_ext (by simp [slK]) fun b hb => by rw [slK_len] at hb; rw [slK_at hb, if_pos hb]; simp [hb]
theorem slK_put (sl : Nat → Nat) {r k : Nat} (hk : k < r) : (slK sl r k).set k (sl k) = slK sl r (k + 1) :=
  list_getD_ext (by rw [List.length_set, slK_len, slK_len]) fun b hb => by
    rw [List.length_set, slK_len] at hb
    rw [getD_set _ _ _ _ (by rw [slK_len]; exact hk), slK_at hb, slK_at hb]
    by_cases e : b = k
    · subst e; rw [if_pos rfl, if_pos (by omega)]
    · rw [if_neg e]
      by_cases hl : b < k
      · rw [if_pos hl, if_pos (by omega)]
      · rw [if_neg hl, if_neg (by omega)]
theorem s_go {P : Program} {ops : Array Oper} {Q : Exit → Act → World → Prop} {i : Nat} {o : Oper} {K : Act → World → Prop} {a : Act} {w : World} (hi : ops[i]? = some o) (hw : Region.wanted o (yielded ops a.tmps) = true) (h : o.wp P a w K Q) : wpOp P ops Q i K a w := by
  unfold wpOp
  simp only [hi, hw, if_true]
  exact .inl h
end Go.Proofs.Ytamfnahbhhmiiaa

/-
  The program's slack of a drawing of nothing, and of a plan. (Walks.)
-/
namespace Go.Proofs.Ytamfnahbhhmiiaa
open Go.RowKit

def slackV (p : List ByteArray) (l : List Int) : List Nat := if sizedB p l = true then slL (pL p 0) (dN l) (gridR p) else []
theorem slackV_few (p : List ByteArray) (l : List Int) : (intsL (slackV p l)).length ≤ 1048576 := by
  unfold slackV
  split
  · rename_i h
    have := (sized_facts h).2.2.2.1
    simp [intsL, slL_len]; omega
  · simp [intsL]
end Go.Proofs.Ytamfnahbhhmiiaa

/-
  The model's slack. (Walks.)
-/
namespace Go.Proofs.Ytamfnahbhhmiiaa
open Go.RowKit

/-- the model's rounds from behind -/
structure WbJ (f : Nat → Nat → Bool) (d : Nat → Nat) (r t a j : Nat) (S : List Nat) : Prop where
  len : S.length = r
  up : ∀ b, b < r → S.getD b 0 ≤ sumS (flipQ f) d r b
  lo : ∀ b, b < r → wK (flipQ f) d r t b ≤ S.getD b 0
  part : ∀ b, b < r → gM (flipQ f) (fun x => wK (flipQ f) d r t x + d x) b (if b < a then r else if b = a then j else 0) ≤ S.getD b 0
theorem WbJ.start (f : Nat → Nat → Bool) (d : Nat → Nat) (r : Nat) : WbJ f d r 0 0 0 (List.replicate r 0) :=
  ⟨by simp, fun b hb => by simp [hb], fun b hb => Nat.zero_le _, fun b hb => by rw [if_neg (by omega)]; split <;> exact Nat.zero_le _⟩
theorem WbJ.skip {f : Nat → Nat → Bool} {d : Nat → Nat} {r t a j : Nat} {S : List Nat} (h : WbJ f d r t a j S) (hf : f a j = false) : WbJ f d r t a (j + 1) S := by
  refine ⟨h.len, h.up, h.lo, fun b hb => ?_⟩
  have := h.part b hb
  by_cases hl : b < a
  · rw [if_pos hl] at this ⊢; exact this
  · rw [if_neg hl] at this ⊢
    by_cases e : b = a
    · subst e
      rw [if_pos rfl] at this ⊢
      rw [gM_no (show flipQ f j b = false from hf)]; exact this
    · rw [if_neg e] at this ⊢; exact this
theorem WbJ.step {f q : Nat → Nat → Bool} {d : Nat → Nat} {r t a j : Nat} {S : List Nat} (G : Goes f q r) (h : WbJ f d r t a j S) (hf : f a j = true) : WbJ f d r t a (j + 1) (S.set a (max (S.getD a 0) (S.getD j 0 + d j))) := by
  have hff : flipQ f j a = true := hf
  obtain ⟨ha, hj, _⟩ := G.imp _ _ hf
  have hs := G.flip.sum_up (d := d) hff
  have hua := h.up a ha
  have huj := h.up j hj
  have hlj := h.lo j hj
  have hg : ∀ b, (S.set a (max (S.getD a 0) (S.getD j 0 + d j))).getD b 0 = if b = a then max (S.getD a 0) (S.getD j 0 + d j) else S.getD b 0 := fun b => getD_set S a b _ (by rw [h.len]; exact ha)
  refine ⟨by rw [List.length_set]; exact h.len, fun b hb => ?_, fun b hb => ?_, fun b hb => ?_⟩
  · rw [hg]; split
    · next e => subst e; omega
    · exact h.up b hb
  · rw [hg]; split
    · next e => subst e; have := h.lo b hb; omega
    · exact h.lo b hb
  · have := h.part b hb
    rw [hg]
    by_cases hl : b < a
    · rw [if_pos hl] at this ⊢; rw [if_neg (by omega)]; exact this
    · rw [if_neg hl] at this ⊢
      by_cases e : b = a
      · subst e
        rw [if_pos rfl] at this ⊢
        rw [if_pos rfl, gM_yes hff]
        show max _ (wK (flipQ f) d r t j + d j) ≤ _
        omega
      · rw [if_neg e] at this ⊢; rw [if_neg e]; exact this
theorem WbJ.row {f : Nat → Nat → Bool} {d : Nat → Nat} {r t a : Nat} {S : List Nat} (h : WbJ f d r t a r S) : WbJ f d r t (a + 1) 0 S :=
  ⟨h.len, h.up, h.lo, fun b hb => by
    have := h.part b hb
    by_cases hl : b < a
    · rw [if_pos hl] at this; rw [if_pos (by omega)]; exact this
    · rw [if_neg hl] at this
      by_cases e : b = a
      · rw [if_pos e] at this; rw [if_pos (by omega)]; exact this
      · rw [if_neg (by omega)]; split <;> exact Nat.zero_le _⟩
theorem WbJ.round {f : Nat → Nat → Bool} {d : Nat → Nat} {r t : Nat} {S : List Nat} (h : WbJ f d r t r 0 S) : WbJ f d r (t + 1) 0 0 S :=
  ⟨h.len, h.up, fun b hb => by have := h.part b hb; rw [if_pos hb] at this; exact this, fun b hb => by rw [if_neg (by omega)]; split <;> exact Nat.zero_le _⟩
theorem WbJ.done {f : Nat → Nat → Bool} {d : Nat → Nat} {r : Nat} {S : List Nat} (h : WbJ f d r r 0 0 S) : S = sumL (flipQ f) d r := by
  refine list_getD_ext (by rw [h.len, sumL_len]) fun b hb => ?_
  rw [h.len] at hb
  rw [sumL_at hb]
  have h1 := h.up b hb
  have h2 := h.lo b hb
  unfold sumS at h1 ⊢
  omega
theorem slL_step (f : Nat → Nat → Bool) (d : Nat → Nat) {r k : Nat} (hk : k < r) : (slL f d r).take (k + 1) = (slL f d r).take k ++ [slN f d r k] := by
  rw [take_succ_getD _ k 0 (by rw [slL_len]; exact hk)]
  congr 2
  simp [slL, hk]

end Go.Proofs.Ytamfnahbhhmiiaa
