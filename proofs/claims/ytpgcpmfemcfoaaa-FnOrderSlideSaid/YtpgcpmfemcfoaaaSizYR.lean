/-
  Merged texts: SizW SizY.
-/
import Derived.Test.YtpgcpmfemcfoaaaLonR
import Derived.Test.YtpgcpmfemcfoaaaLongR
import Derived.Test.YtpgcpmfemcfoaaaOrdABR
import Derived.Deep.MidRow
import Derived.Lib.QuietBelow
import Derived.OrdersHeld
import Derived.BigRegion
import Derived.Maps.AppendAt
import Derived.Lib.SliceRun
import Derived.Lib.BufferMore
import Derived.Deep.AppendLies
import Derived.Deep.RegionHeld3

/-
  Merged texts: SizX SizV.
-/
/-
  Merged texts: SizM InsM SizN SizO SizQ SizA SizB.
-/
/-
  Greatest sums of needs of rooms each of which leads to the next one. (Plain mathematics: no function is named.)
-/
namespace Go.Proofs.Ytpgcpmfemcfoaaa

/-- the greatest of what comes of those that lead to a room, of the first ones -/
def gM (f : Nat → Nat → Bool) (v : Nat → Nat) (b : Nat) : Nat → Nat
  | 0 => 0
  | i + 1 => if f i b = true then max (gM f v b i) (v i) else gM f v b i
theorem gM_yes {f : Nat → Nat → Bool} {v : Nat → Nat} {b i : Nat} (h : f i b = true) : gM f v b (i + 1) = max (gM f v b i) (v i) := by
  show (if f i b = true then _ else _) = _
  rw [if_pos h]
theorem gM_no {f : Nat → Nat → Bool} {v : Nat → Nat} {b i : Nat} (h : f i b = false) : gM f v b (i + 1) = gM f v b i := by
  show (if f i b = true then _ else _) = _
  rw [h]; rfl
theorem gM_le {f : Nat → Nat → Bool} {v : Nat → Nat} {b m : Nat} : ∀ i, gM f v b i ≤ m ↔ ∀ a, a < i → f a b = true → v a ≤ m
  | 0 => ⟨fun _ a ha => by omega, fun _ => Nat.zero_le _⟩
  | i + 1 => by
    have ih := gM_le (f := f) (v := v) (b := b) (m := m) i
    cases h : f i b
    · rw [gM_no h, ih]
      constructor
      · intro k a ha hf
        by_cases e : a = i
        · rw [e, h] at hf; cases hf
        · exact k a (by omega) hf
      · exact fun k a ha hf => k a (by omega) hf
    · rw [gM_yes h, Nat.max_le, ih]
      constructor
      · rintro ⟨k, k2⟩ a ha hf
        by_cases e : a = i
        · rw [e]; exact k2
        · exact k a (by omega) hf
      · exact fun k => ⟨fun a ha hf => k a (by omega) hf, k i (by omega) h⟩
theorem gM_congr {f : Nat → Nat → Bool} {v v' : Nat → Nat} {b : Nat} {i : Nat} (h : ∀ a, a < i → f a b = true → v a = v' a) : gM f v b i = gM f v' b i := by
  apply Nat.le_antisymm
  · rw [gM_le]; intro a ha hf; rw [h a ha hf]; exact (gM_le i).1 (Nat.le_refl _) a ha hf
  · rw [gM_le]; intro a ha hf; rw [← h a ha hf]; exact (gM_le i).1 (Nat.le_refl _) a ha hf
theorem gM_some {f : Nat → Nat → Bool} {v : Nat → Nat} {b : Nat} : ∀ i, gM f v b i = 0 ∨ ∃ a, a < i ∧ f a b = true ∧ gM f v b i = v a
  | 0 => .inl rfl
  | i + 1 => by
    cases h : f i b
    · rw [gM_no h]
      rcases gM_some (f := f) (v := v) (b := b) i with k | ⟨a, h1, h2, h3⟩
      · exact .inl k
      · exact .inr ⟨a, by omega, h2, h3⟩
    · rw [gM_yes h]
      by_cases hm : gM f v b i ≤ v i
      · exact .inr ⟨i, by omega, h, by omega⟩
      · rcases gM_some (f := f) (v := v) (b := b) i with k | ⟨a, h1, h2, h3⟩
        · omega
        · exact .inr ⟨a, by omega, h2, by omega⟩
/-- greatest sums of at most k -/
def wK (f : Nat → Nat → Bool) (d : Nat → Nat) (r : Nat) : Nat → Nat → Nat
  | 0, _ => 0
  | k + 1, b => gM f (fun a => wK f d r k a + d a) b r
theorem wK_succ (f : Nat → Nat → Bool) (d : Nat → Nat) (r k b : Nat) : wK f d r (k + 1) b = gM f (fun a => wK f d r k a + d a) b r := rfl
theorem Goes.rank {f q : Nat → Nat → Bool} {r a b : Nat} (G : Goes f q r) (h : f a b = true) : placeN q r a < placeN q r b := G.lin.mono (G.imp _ _ h).1 (G.imp _ _ h).2.1 (G.imp _ _ h).2.2
theorem Goes.wK_same {f q : Nat → Nat → Bool} {r : Nat} {d : Nat → Nat} (G : Goes f q r) : ∀ n k k' b, b < r → placeN q r b ≤ n → n ≤ k → n ≤ k' → wK f d r k b = wK f d r k' b
  | 0, k, k', b, hb, hp, _, _ => by
    have z : ∀ k, wK f d r k b = 0 := fun k => by
      cases k with
      | zero => rfl
      | succ k =>
        rw [wK_succ]
        exact Nat.le_zero.1 ((gM_le r).2 fun a ha hf => by have := G.rank hf; omega)
    rw [z, z]
  | n + 1, k, k', b, hb, hp, hk, hk' => by
    obtain ⟨j, rfl⟩ : ∃ j, k = j + 1 := ⟨k - 1, by omega⟩
    obtain ⟨j', rfl⟩ : ∃ j, k' = j + 1 := ⟨k' - 1, by omega⟩
    rw [wK_succ, wK_succ]
    refine gM_congr fun a ha hf => ?_
    have := G.rank hf
    rw [G.wK_same n j j' a ha (by omega) (by omega) (by omega)]
/-- the greatest sum ahead of a room -/
def sumS (f : Nat → Nat → Bool) (d : Nat → Nat) (r b : Nat) : Nat := wK f d r r b
theorem Goes.sum_fix {f q : Nat → Nat → Bool} {r b : Nat} {d : Nat → Nat} (G : Goes f q r) (hb : b < r) : gM f (fun a => sumS f d r a + d a) b r = sumS f d r b :=
  (G.wK_same (d := d) r (r + 1) r b hb (Nat.le_of_lt (G.lin.lt hb)) (by omega) (Nat.le_refl _))
theorem Goes.sum_up {f q : Nat → Nat → Bool} {r a b : Nat} {d : Nat → Nat} (G : Goes f q r) (hf : f a b = true) : sumS f d r a + d a ≤ sumS f d r b := by
  rw [← G.sum_fix (G.imp _ _ hf).2.1]
  exact (gM_le (v := fun a => sumS f d r a + d a) r).1 (Nat.le_refl _) a (G.imp _ _ hf).1 hf
theorem Goes.sum_some {f q : Nat → Nat → Bool} {r b : Nat} {d : Nat → Nat} (G : Goes f q r) (hb : b < r) : sumS f d r b = 0 ∨ ∃ a, a < r ∧ f a b = true ∧ sumS f d r b = sumS f d r a + d a := by
  have h := gM_some (f := f) (v := fun a => sumS f d r a + d a) (b := b) r
  rw [G.sum_fix hb] at h
  exact h
/-! # going on from room to room, as often as there are rooms -/
structure WaJ (f : Nat → Nat → Bool) (d : Nat → Nat) (r t a j : Nat) (S : List Nat) : Prop where
  len : S.length = r
  up : ∀ b, b < r → S.getD b 0 ≤ sumS f d r b
  lo : ∀ b, b < r → wK f d r t b ≤ S.getD b 0
  part : ∀ b, b < r → gM f (fun a => wK f d r t a + d a) b (if b < j then a + 1 else a) ≤ S.getD b 0
theorem WaJ.start (f : Nat → Nat → Bool) (d : Nat → Nat) (r : Nat) : WaJ f d r 0 0 0 (List.replicate r 0) :=
  ⟨by simp, fun b hb => by simp [hb], fun b hb => Nat.zero_le _, fun b hb => by rw [if_neg (by omega)]; exact Nat.zero_le _⟩
theorem WaJ.step {f q : Nat → Nat → Bool} {d : Nat → Nat} {r t a j : Nat} {S : List Nat} (G : Goes f q r) (h : WaJ f d r t a j S) (hf : f a j = true) : WaJ f d r t a (j + 1) (S.set j (max (S.getD j 0) (S.getD a 0 + d a))) := by
  obtain ⟨ha, hj, _⟩ := G.imp _ _ hf
  have hs := G.sum_up (d := d) hf
  have hua := h.up a ha
  have huj := h.up j hj
  have hla := h.lo a ha
  have hg : ∀ b, (S.set j (max (S.getD j 0) (S.getD a 0 + d a))).getD b 0 = if b = j then max (S.getD j 0) (S.getD a 0 + d a) else S.getD b 0 := fun b => getD_set S j b _ (by rw [h.len]; exact hj)
  refine ⟨by rw [List.length_set]; exact h.len, fun b hb => ?_, fun b hb => ?_, fun b hb => ?_⟩
  · rw [hg]; split
    · next e => subst e; omega
    · exact h.up b hb
  · rw [hg]; split
    · next e => subst e; have := h.lo b hb; omega
    · exact h.lo b hb
  · have := h.part b hb
    rw [hg]
    by_cases e : b = j
    · subst e
      rw [if_neg (by omega)] at this
      rw [if_pos (by omega), if_pos rfl, gM_yes hf]
      show max _ (wK f d r t a + d a) ≤ _
      omega
    · rw [if_neg e]
      by_cases hl : b < j
      · rw [if_pos hl] at this; rw [if_pos (by omega)]; exact this
      · rw [if_neg hl] at this; rw [if_neg (by omega)]; exact this
theorem WaJ.row {f : Nat → Nat → Bool} {d : Nat → Nat} {r t a : Nat} {S : List Nat} (h : WaJ f d r t a r S) : WaJ f d r t (a + 1) 0 S :=
  ⟨h.len, h.up, h.lo, fun b hb => by have := h.part b hb; rw [if_pos hb] at this; rw [if_neg (by omega)]; exact this⟩
theorem WaJ.round {f : Nat → Nat → Bool} {d : Nat → Nat} {r t : Nat} {S : List Nat} (h : WaJ f d r t r 0 S) : WaJ f d r (t + 1) 0 0 S :=
  ⟨h.len, h.up, fun b hb => by have := h.part b hb; rw [if_neg (by omega)] at this; exact this, fun b hb => by rw [if_neg (by omega)]; exact Nat.zero_le _⟩
/-! # going along a line -/
/-- the rooms in a line -/
structure Srt (q : Nat → Nat → Bool) (r : Nat) (ln : List Nat) : Prop where
  len : ln.length = r
  lt : ∀ i, i < r → ln.getD i 0 < r
  ord : ∀ i j, i < j → j < r → q (ln.getD i 0) (ln.getD j 0) = true
  all : ∀ x, x < r → ∃ i, i < r ∧ ln.getD i 0 = x
theorem Srt.inj {q : Nat → Nat → Bool} {r : Nat} {ln : List Nat} (L : Lin q r) (h : Srt q r ln) {i j : Nat} (hi : i < r) (hj : j < r) (e : ln.getD i 0 = ln.getD j 0) : i = j := by
  rcases Nat.lt_trichotomy i j with h1 | h1 | h1
  · have := h.ord i j h1 hj; rw [e, L.irr _ (h.lt j hj)] at this; cases this
  · exact h1
  · have := h.ord j i h1 hi; rw [e, L.irr _ (h.lt j hj)] at this; cases this
theorem Srt.ahead {f q : Nat → Nat → Bool} {r : Nat} {ln : List Nat} (G : Goes f q r) (h : Srt q r ln) {k j : Nat} (hk : k < r) (hj : j < r) (hf : f (ln.getD j 0) (ln.getD k 0) = true) : j < k := by
  have hq := (G.imp _ _ hf).2.2
  rcases Nat.lt_trichotomy j k with h1 | h1 | h1
  · exact h1
  · subst h1; rw [G.lin.irr _ (h.lt j hj)] at hq; cases hq
  · have := h.ord k j h1 hj
    have := G.lin.trans _ _ _ (h.lt k hk) (h.lt j hj) (h.lt k hk) this hq
    rw [G.lin.irr _ (h.lt k hk)] at this; cases this
/-- of the rooms ahead in the line -/
def gL (f : Nat → Nat → Bool) (v : Nat → Nat) (ln : List Nat) (b i : Nat) : Nat := gM (fun j b => f (ln.getD j 0) b) (fun j => v (ln.getD j 0)) b i
theorem gL_all {f q : Nat → Nat → Bool} {r : Nat} {d : Nat → Nat} {ln : List Nat} (G : Goes f q r) (h : Srt q r ln) {k : Nat} (hk : k < r) : gL f (fun a => sumS f d r a + d a) ln (ln.getD k 0) k = sumS f d r (ln.getD k 0) := by
  apply Nat.le_antisymm
  · unfold gL; rw [gM_le]; exact fun a _ hf => G.sum_up hf
  · rcases G.sum_some (d := d) (h.lt k hk) with e | ⟨a, ha, hf, e⟩
    · rw [e]; exact Nat.zero_le _
    · obtain ⟨j, hj, rfl⟩ := h.all a ha
      rw [e]
      unfold gL
      exact (gM_le (f := fun j b => f (ln.getD j 0) b) (v := fun j => sumS f d r (ln.getD j 0) + d (ln.getD j 0)) k).1 (Nat.le_refl _) j (h.ahead G hk hj hf) hf
theorem gL_yes {f : Nat → Nat → Bool} {v : Nat → Nat} {ln : List Nat} {b i : Nat} (h : f (ln.getD i 0) b = true) : gL f v ln b (i + 1) = max (gL f v ln b i) (v (ln.getD i 0)) := gM_yes (f := fun j b => f (ln.getD j 0) b) (v := fun j => v (ln.getD j 0)) h
theorem zeros_at (r b : Nat) : (List.replicate r 0).getD b 0 = 0 := by
  rw [List.getD_eq_getElem?_getD, List.getElem?_replicate]
  split <;> rfl
structure AhS (f : Nat → Nat → Bool) (d : Nat → Nat) (r : Nat) (ln : List Nat) (k i : Nat) (S : List Nat) : Prop where
  len : S.length = r
  did : ∀ j, j < k → S.getD (ln.getD j 0) 0 = sumS f d r (ln.getD j 0)
  now : k < r → S.getD (ln.getD k 0) 0 = gL f (fun a => sumS f d r a + d a) ln (ln.getD k 0) i
  rest : ∀ j, k < j → j < r → S.getD (ln.getD j 0) 0 = 0
theorem AhS.start {f : Nat → Nat → Bool} {d : Nat → Nat} {q : Nat → Nat → Bool} {r : Nat} {ln : List Nat} (_h : Srt q r ln) : AhS f d r ln 0 0 (List.replicate r 0) :=
  ⟨by simp, fun j hj => by omega, fun _ => by rw [zeros_at]; rfl, fun j _ _ => zeros_at _ _⟩
theorem AhS.step {f q : Nat → Nat → Bool} {d : Nat → Nat} {r : Nat} {ln : List Nat} {k i : Nat} {S : List Nat} (L : Lin q r) (s : Srt q r ln) (h : AhS f d r ln k i S) (hk : k < r) (hi : i < k) (hf : f (ln.getD i 0) (ln.getD k 0) = true) :
    AhS f d r ln k (i + 1) (S.set (ln.getD k 0) (max (S.getD (ln.getD k 0) 0) (S.getD (ln.getD i 0) 0 + d (ln.getD i 0)))) := by
  have hg : ∀ b, (S.set (ln.getD k 0) (max (S.getD (ln.getD k 0) 0) (S.getD (ln.getD i 0) 0 + d (ln.getD i 0)))).getD b 0 = if b = ln.getD k 0 then max (S.getD (ln.getD k 0) 0) (S.getD (ln.getD i 0) 0 + d (ln.getD i 0)) else S.getD b 0 := fun b => getD_set S _ b _ (by rw [h.len]; exact s.lt k hk)
  refine ⟨by rw [List.length_set]; exact h.len, fun j hj => ?_, fun _ => ?_, fun j hj hjr => ?_⟩
  · rw [hg, if_neg (fun e => by have := s.inj L (by omega) hk e; omega)]; exact h.did j hj
  · rw [hg, if_pos rfl, h.now hk, h.did i hi, gL_yes hf]
  · rw [hg, if_neg (fun e => by have := s.inj L hjr hk e; omega)]; exact h.rest j hj hjr
theorem AhS.next {f q : Nat → Nat → Bool} {d : Nat → Nat} {r : Nat} {ln : List Nat} {k : Nat} {S : List Nat} (G : Goes f q r) (s : Srt q r ln) (h : AhS f d r ln k k S) (hk : k < r) : AhS f d r ln (k + 1) 0 S := by
  refine ⟨h.len, fun j hj => ?_, fun hk2 => ?_, fun j hj hjr => h.rest j (by omega) hjr⟩
  · by_cases e : j = k
    · subst e; rw [h.now hk, gL_all G s hk]
    · exact h.did j (by omega)
  · rw [h.rest (k + 1) (by omega) hk2]; rfl
theorem AhS.few {f q : Nat → Nat → Bool} {d : Nat → Nat} {r : Nat} {ln : List Nat} {k i : Nat} {S : List Nat} (G : Goes f q r) (s : Srt q r ln) (h : AhS f d r ln k i S) (hk : k < r) (hik : i ≤ k) : ∀ b, b < r → S.getD b 0 ≤ sumS f d r b := by
  intro b hb
  obtain ⟨j, hj, rfl⟩ := s.all b hb
  rcases Nat.lt_trichotomy j k with h1 | h1 | h1
  · rw [h.did j h1]; exact Nat.le_refl _
  · subst h1
    rw [h.now hk]
    unfold gL; rw [gM_le]; exact fun a _ hf => G.sum_up hf
  · rw [h.rest j h1 hj]; exact Nat.zero_le _

end Go.Proofs.Ytpgcpmfemcfoaaa

/-
  Putting rooms in order one by one. (Plain mathematics: no function is named.)
-/
namespace Go.Proofs.Ytpgcpmfemcfoaaa

def swapL (L : List Nat) (j : Nat) : List Nat := (L.set j (L.getD (j - 1) 0)).set (j - 1) (L.getD j 0)
theorem swapL_len (L : List Nat) (j : Nat) : (swapL L j).length = L.length := by simp [swapL]
theorem swapL_at {L : List Nat} {j : Nat} (h1 : 1 ≤ j) (hj : j < L.length) (x : Nat) : (swapL L j).getD x 0 = if x = j - 1 then L.getD j 0 else if x = j then L.getD (j - 1) 0 else L.getD x 0 := by
  unfold swapL
  rw [getD_set _ _ _ _ (by rw [List.length_set]; omega), getD_set _ _ _ _ hj]
structure Ins (q : Nat → Nat → Bool) (r i : Nat) (L : List Nat) : Prop where
  len : L.length = r
  lt : ∀ x, x < r → L.getD x 0 < r
  inj : ∀ x y, x < r → y < r → L.getD x 0 = L.getD y 0 → x = y
  ord : ∀ x y, x < y → y < i → q (L.getD x 0) (L.getD y 0) = true
structure InJ (q : Nat → Nat → Bool) (r i j : Nat) (L : List Nat) : Prop where
  len : L.length = r
  lt : ∀ x, x < r → L.getD x 0 < r
  inj : ∀ x y, x < r → y < r → L.getD x 0 = L.getD y 0 → x = y
  hi : i < r
  hj : j ≤ i
  ord : ∀ x y, x < y → y ≤ i → x ≠ j → y ≠ j → q (L.getD x 0) (L.getD y 0) = true
  fst : ∀ y, j < y → y ≤ i → q (L.getD j 0) (L.getD y 0) = true
theorem Ins.start (q : Nat → Nat → Bool) (r : Nat) : Ins q r 1 (List.range r) := by
  have hg : ∀ x, x < r → (List.range r).getD x 0 = x := fun x hx => by simp [hx]
  exact ⟨by simp, fun x hx => by rw [hg x hx]; exact hx, fun x y hx hy e => by rwa [hg x hx, hg y hy] at e, fun x y h1 h2 => by omega⟩
theorem Ins.inner {q : Nat → Nat → Bool} {r i : Nat} {L : List Nat} (h : Ins q r i L) (hi : i < r) : InJ q r i i L :=
  ⟨h.len, h.lt, h.inj, hi, Nat.le_refl _, fun x y h1 h2 _ h4 => h.ord x y h1 (by omega), fun y h1 h2 => by omega⟩
theorem InJ.swap {q : Nat → Nat → Bool} {r i j : Nat} {L : List Nat} (h : InJ q r i j L) (h1 : 1 ≤ j) (hq : q (L.getD j 0) (L.getD (j - 1) 0) = true) : InJ q r i (j - 1) (swapL L j) := by
  have hjr : j < L.length := by rw [h.len]; have := h.hi; have := h.hj; omega
  have hjr2 : j < r := by rw [← h.len]; exact hjr
  have hji := h.hj
  have hat := fun x => swapL_at h1 hjr x
  refine ⟨by rw [swapL_len]; exact h.len, fun x hx => ?_, fun x y hx hy e => ?_, h.hi, by omega, fun x y hxy hy hx1 hy1 => ?_, fun y hy1 hy => ?_⟩
  · rw [hat]; split
    · exact h.lt _ hjr2
    · split
      · exact h.lt _ (by omega)
      · exact h.lt x hx
  · rw [hat, hat] at e
    by_cases a1 : x = j - 1
    · by_cases a2 : y = j - 1
      · omega
      · rw [if_pos a1, if_neg a2] at e
        by_cases a3 : y = j
        · rw [if_pos a3] at e; have := h.inj _ _ hjr2 (by omega) e; omega
        · rw [if_neg a3] at e; have := h.inj _ _ hjr2 hy e; omega
    · rw [if_neg a1] at e
      by_cases a2 : y = j - 1
      · rw [if_pos a2] at e
        by_cases a3 : x = j
        · rw [if_pos a3] at e; have := h.inj _ _ (by omega) hjr2 e; omega
        · rw [if_neg a3] at e; have := h.inj _ _ hx hjr2 e; omega
      · rw [if_neg a2] at e
        by_cases a3 : x = j
        · rw [if_pos a3] at e
          by_cases a4 : y = j
          · omega
          · rw [if_neg a4] at e; have := h.inj _ _ (by omega) hy e; omega
        · rw [if_neg a3] at e
          by_cases a4 : y = j
          · rw [if_pos a4] at e; have := h.inj _ _ hx (by omega) e; omega
          · rw [if_neg a4] at e; exact h.inj _ _ hx hy e
  · rw [hat, hat, if_neg hx1, if_neg hy1]
    by_cases a3 : x = j
    · rw [if_pos a3, if_neg (by omega)]
      exact h.ord (j - 1) y (by omega) hy (by omega) (by omega)
    · rw [if_neg a3]
      by_cases a4 : y = j
      · rw [if_pos a4]; exact h.ord x (j - 1) (by omega) (by omega) a3 (by omega)
      · rw [if_neg a4]; exact h.ord x y hxy hy a3 a4
  · rw [hat, hat, if_pos rfl, if_neg (by omega)]
    by_cases a4 : y = j
    · rw [if_pos a4]; exact hq
    · rw [if_neg a4]; exact h.fst y (by omega) hy
end Go.Proofs.Ytpgcpmfemcfoaaa

/-
  Needs of rooms: what they are in memory, and how they are put in order. (Walks.)
-/
namespace Go.Proofs.Ytpgcpmfemcfoaaa
open Go.RowKit

/-! # needs as cells -/
def ndL (d : Nat → Nat) (L : List Nat) : List Value := (List.range (2 * L.length)).map fun k => .int .i64 (((if k % 2 = 0 then L.getD (k / 2) 0 else d (L.getD (k / 2) 0)) : Nat) : Int)
/-! # a drawing -/
def dwC (O : Array Value) (way : Int) (v : Value) : Array Value := O ++ #[.int .i64 way, v]
/-! # which of two needs is put ahead -/
end Go.Proofs.Ytpgcpmfemcfoaaa

/-
  Needs are put in order: the insertion sort of slices.SortFunc. (Walks.)
-/
namespace Go.Proofs.Ytpgcpmfemcfoaaa
open Go.RowKit

end Go.Proofs.Ytpgcpmfemcfoaaa

/-
  Needs are put in order: slices.SortFunc. (Walks.)
-/
namespace Go.Proofs.Ytpgcpmfemcfoaaa
open Go.RowKit

end Go.Proofs.Ytpgcpmfemcfoaaa

/-
  The program's greatest sums of needs, and the least width. (Walks.)
-/
namespace Go.Proofs.Ytpgcpmfemcfoaaa
open Go.RowKit

end Go.Proofs.Ytpgcpmfemcfoaaa

/-
  The program's least width of a drawing. (Walks.)
-/
namespace Go.Proofs.Ytpgcpmfemcfoaaa
open Go.RowKit

end Go.Proofs.Ytpgcpmfemcfoaaa

/-
  Merged texts: SizS SizC SizU.
-/
/-
  The model's least widths. (Walks.)
-/
namespace Go.Proofs.Ytpgcpmfemcfoaaa
open Go.RowKit

/-- the needs of a list -/
def dN (l : List Int) (a : Nat) : Nat := (l.getD a 0).toNat
def PzSt (w : World) (gs : Nat) (S0 S : List Nat) (wr : World) : Prop := HeldB wr gs 3 (setsV S0) ∧ HeldB wr w.heap.size 3 (setsV S) ∧ Below w.heap.size w wr
theorem PzSt.put {w : World} {gs : Nat} {S0 S T : List Nat} {wr : World} (h : PzSt w gs S0 S wr) (hgn : gs ≠ w.heap.size) (x m : Nat) (hT : S.set x m = T) : PzSt w gs S0 T (wr.setCell ⟨w.heap.size, x, none⟩ (.int .i64 (m : Nat))) := by
  refine ⟨h.1.other (by simpa using hgn) _, ?_, h.2.2.setCell (Nat.le_refl _) _⟩
  rw [← hT, ← setsV_put]
  exact h.2.1.set x _
theorem PzSt.drew {w : World} {gs : Nat} {S0 S : List Nat} {wr : World} (h : PzSt w gs S0 S wr) : PzSt w gs S0 S wr.drew := ⟨h.1.drew, h.2.1.drew, h.2.2.drew⟩
end Go.Proofs.Ytpgcpmfemcfoaaa

/-
  The program's drawings: none, and those of a plan with needs. (Walks.)
-/
namespace Go.Proofs.Ytpgcpmfemcfoaaa
open Go.RowKit

/-! # a drawing of nothing -/
def noDw : Array Value := dwC (ordC zeroC noF) 0 (.slice none 0 0)
end Go.Proofs.Ytpgcpmfemcfoaaa

/-
  Merged texts: SizD SizE SizT.
-/
/-
  The program's drawing of a plan with a list of needs. (Walks.)
-/
namespace Go.Proofs.Ytpgcpmfemcfoaaa
open Go.RowKit

/-- what is told of a drawing -/
def DwRet (base : Nat) (O : Array Value) (way : Int) (r : Nat) (l : List Int) (b : Bool) (e : Ending) (w' : World) : Prop :=
  ∃ D, e = .returned (.tuple #[.agg D, .bool b]) ∧ (b = false → D = noDw) ∧ (b = true → ∃ gn cn, D = dwC O way (.slice (some ⟨gn, 0, none⟩) r cn) ∧ base ≤ gn ∧ CellsAt w' (some ⟨gn, 0, none⟩) (ndL (dN l) (List.range r)))
theorem DwRet.below {base : Nat} {O : Array Value} {way : Int} {r : Nat} {l : List Int} {b : Bool} {e : Ending} {w w' : World} (h : DwRet base O way r l b e w) (hb : Below w.heap.size w w') : DwRet base O way r l b e w' := by
  obtain ⟨D, h1, h2, h3⟩ := h
  exact ⟨D, h1, h2, fun hh => by obtain ⟨gn, cn, h4, h6, h5⟩ := h3 hh; exact ⟨gn, cn, h4, h6, h5.below hb⟩⟩
end Go.Proofs.Ytpgcpmfemcfoaaa

/-
  The program's least widths and heights, and places. (Walks.)
-/
namespace Go.Proofs.Ytpgcpmfemcfoaaa
open Go.RowKit

end Go.Proofs.Ytpgcpmfemcfoaaa

/-
  The model's answers about sizes, and areas. (Walks.)
-/
namespace Go.Proofs.Ytpgcpmfemcfoaaa
open Go.RowKit

end Go.Proofs.Ytpgcpmfemcfoaaa

/-
  Merged texts: SizF SizG SizH SizI SizJ SizK.
-/
/-
  The comparison that puts needs in the same order from behind. (Walks.)
-/
namespace Go.Proofs.Ytpgcpmfemcfoaaa
open Go.RowKit

/-- a question asked from behind -/
def flipQ (q : Nat → Nat → Bool) : Nat → Nat → Bool := fun a b => q b a
theorem Lin.flip {q : Nat → Nat → Bool} {r : Nat} (L : Lin q r) : Lin (flipQ q) r :=
  ⟨fun a ha => L.irr a ha, fun a b ha hb hne => (L.all a b ha hb hne).elim Or.inr Or.inl, fun a b c ha hb hc h1 h2 => L.trans c b a hc hb ha h2 h1⟩
theorem Goes.flip {f q : Nat → Nat → Bool} {r : Nat} (G : Goes f q r) : Goes (flipQ f) (flipQ q) r :=
  ⟨G.lin.flip, fun a b h => ⟨(G.imp b a h).2.1, (G.imp b a h).1, (G.imp b a h).2.2⟩⟩
end Go.Proofs.Ytpgcpmfemcfoaaa

/-
  Needs are put in order from behind: slices.SortFunc with the opposite comparison. (Walks.)
-/
namespace Go.Proofs.Ytpgcpmfemcfoaaa
open Go.RowKit

end Go.Proofs.Ytpgcpmfemcfoaaa

/-
  Greatest sums of needs from behind. (Walks.)
-/
namespace Go.Proofs.Ytpgcpmfemcfoaaa
open Go.RowKit

end Go.Proofs.Ytpgcpmfemcfoaaa

/-
  The program's slack of a drawing. (Walks.)
-/
namespace Go.Proofs.Ytpgcpmfemcfoaaa
open Go.RowKit

end Go.Proofs.Ytpgcpmfemcfoaaa

/-
  The program's slack of a drawing of nothing, and of a plan. (Walks.)
-/
namespace Go.Proofs.Ytpgcpmfemcfoaaa
open Go.RowKit

end Go.Proofs.Ytpgcpmfemcfoaaa

/-
  The model's slack. (Walks.)
-/
namespace Go.Proofs.Ytpgcpmfemcfoaaa
open Go.RowKit

/-- the model's rounds from behind -/
structure WbJ (f : Nat → Nat → Bool) (d : Nat → Nat) (r t a j : Nat) (S : List Nat) : Prop where
  len : S.length = r
  up : ∀ b, b < r → S.getD b 0 ≤ sumS (flipQ f) d r b
  lo : ∀ b, b < r → wK (flipQ f) d r t b ≤ S.getD b 0
  part : ∀ b, b < r → gM (flipQ f) (fun x => wK (flipQ f) d r t x + d x) b (if b < a then r else if b = a then j else 0) ≤ S.getD b 0
theorem WbJ.start (f : Nat → Nat → Bool) (d : Nat → Nat) (r : Nat) : WbJ f d r 0 0 0 (List.replicate r 0) :=
  ⟨by simp, fun b hb => by simp [hb], fun b hb => Nat.zero_le _, fun b hb => by rw [if_neg (by omega)]; split <;> exact Nat.zero_le _⟩
theorem WbJ.step {f q : Nat → Nat → Bool} {d : Nat → Nat} {r t a j : Nat} {S : List Nat} (G : Goes f q r) (h : WbJ f d r t a j S) (hf : f a j = true) : WbJ f d r t a (j + 1) (S.set a (max (S.getD a 0) (S.getD j 0 + d j))) := by
  have hff : flipQ f j a = true := hf
  obtain ⟨ha, hj, _⟩ := G.imp _ _ hf
  have hs := G.flip.sum_up (d := d) hff
  have hua := h.up a ha
  have huj := h.up j hj
  have hlj := h.lo j hj
  have hg : ∀ b, (S.set a (max (S.getD a 0) (S.getD j 0 + d j))).getD b 0 = if b = a then max (S.getD a 0) (S.getD j 0 + d j) else S.getD b 0 := fun b => getD_set S a b _ (by rw [h.len]; exact ha)
  refine ⟨by rw [List.length_set]; exact h.len, fun b hb => ?_, fun b hb => ?_, fun b hb => ?_⟩
  · rw [hg]; split
    · next e => subst e; omega
    · exact h.up b hb
  · rw [hg]; split
    · next e => subst e; have := h.lo b hb; omega
    · exact h.lo b hb
  · have := h.part b hb
    rw [hg]
    by_cases hl : b < a
    · rw [if_pos hl] at this ⊢; rw [if_neg (by omega)]; exact this
    · rw [if_neg hl] at this ⊢
      by_cases e : b = a
      · subst e
        rw [if_pos rfl] at this ⊢
        rw [if_pos rfl, gM_yes hff]
        show max _ (wK (flipQ f) d r t j + d j) ≤ _
        omega
      · rw [if_neg e] at this ⊢; rw [if_neg e]; exact this
theorem WbJ.row {f : Nat → Nat → Bool} {d : Nat → Nat} {r t a : Nat} {S : List Nat} (h : WbJ f d r t a r S) : WbJ f d r t (a + 1) 0 S :=
  ⟨h.len, h.up, h.lo, fun b hb => by
    have := h.part b hb
    by_cases hl : b < a
    · rw [if_pos hl] at this; rw [if_pos (by omega)]; exact this
    · rw [if_neg hl] at this
      by_cases e : b = a
      · rw [if_pos e] at this; rw [if_pos (by omega)]; exact this
      · rw [if_neg (by omega)]; split <;> exact Nat.zero_le _⟩
theorem WbJ.round {f : Nat → Nat → Bool} {d : Nat → Nat} {r t : Nat} {S : List Nat} (h : WbJ f d r t r 0 S) : WbJ f d r (t + 1) 0 0 S :=
  ⟨h.len, h.up, fun b hb => by have := h.part b hb; rw [if_pos hb] at this; exact this, fun b hb => by rw [if_neg (by omega)]; split <;> exact Nat.zero_le _⟩
end Go.Proofs.Ytpgcpmfemcfoaaa
