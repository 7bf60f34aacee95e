
/-
  Longest rows of rooms, each led to by the one ahead: from behind and from ahead. (Plain mathematics.)
-/
import Derived.Test.YtcapagegeomebaaOrdYZ
namespace Go.Proofs.Ytcapagegeomebaa

/-- a way of so many steps -/
def Pth (f : Nat → Nat → Bool) (r : Nat) : Nat → Nat → Nat → Prop
  | 0, a, b => a = b ∧ a < r
  | n + 1, a, c => ∃ b, Pth f r n a b ∧ f b c = true ∧ c < r
theorem Pth.lt {f : Nat → Nat → Bool} {r : Nat} : ∀ {n a b : Nat}, Pth f r n a b → a < r ∧ b < r
  | 0, a, b, h => by obtain ⟨rfl, h⟩ := h; exact ⟨h, h⟩
  | n + 1, a, b, h => by
    obtain ⟨c, h1, _, h3⟩ := h
    exact ⟨(Pth.lt h1).1, h3⟩
theorem Pth.front {f : Nat → Nat → Bool} {r : Nat} : ∀ {n a b c : Nat}, a < r → f a b = true → Pth f r n b c → Pth f r (n + 1) a c
  | 0, a, b, c, ha, hf, h => by obtain ⟨rfl, h⟩ := h; exact ⟨a, ⟨rfl, ha⟩, hf, h⟩
  | n + 1, a, b, c, ha, hf, h => by
    obtain ⟨d, h1, h2, h3⟩ := h
    exact ⟨d, Pth.front ha hf h1, h2, h3⟩
theorem Pth.split {f : Nat → Nat → Bool} {r : Nat} : ∀ {n a c : Nat}, Pth f r (n + 1) a c → ∃ b, f a b = true ∧ Pth f r n b c
  | 0, a, c, h => by
    obtain ⟨b, ⟨rfl, _⟩, h2, h3⟩ := h
    exact ⟨c, h2, rfl, h3⟩
  | n + 1, a, c, h => by
    obtain ⟨d, h1, h2, h3⟩ := h
    obtain ⟨b, b1, b2⟩ := Pth.split h1
    exact ⟨b, b1, d, b2, h2, h3⟩
theorem Pth.rev {f : Nat → Nat → Bool} {r : Nat} : ∀ {n a b : Nat}, Pth f r n a b → Pth (fun x y => f y x) r n b a
  | 0, a, b, h => by obtain ⟨rfl, h⟩ := h; exact ⟨rfl, h⟩
  | n + 1, a, c, h => by
    obtain ⟨b, h1, h2, h3⟩ := h
    exact Pth.front (f := fun x y => f y x) h3 h2 (Pth.rev h1)

/-- the most of what leads to a room, one more -/
def foM (f : Nat → Nat → Bool) (v : Nat → Nat) (b : Nat) : Nat → Nat
  | 0 => 0
  | i + 1 => if f i b = true then max (foM f v b i) (v i + 1) else foM f v b i
theorem foM_le {f : Nat → Nat → Bool} {v : Nat → Nat} {b n : Nat} : ∀ i, (n + 1 ≤ foM f v b i ↔ ∃ a, a < i ∧ f a b = true ∧ n ≤ v a)
  | 0 => by unfold foM; constructor; · intro h; omega
            · rintro ⟨a, h, _⟩; omega
  | i + 1 => by
    have ih := foM_le (f := f) (v := v) (b := b) (n := n) i
    unfold foM
    constructor
    · intro h
      split at h
      · rename_i hf
        by_cases h2 : n ≤ v i
        · exact ⟨i, by omega, hf, h2⟩
        · obtain ⟨a, a1, a2⟩ := ih.1 (by omega)
          exact ⟨a, by omega, a2⟩
      · obtain ⟨a, a1, a2⟩ := ih.1 h
        exact ⟨a, by omega, a2⟩
    · rintro ⟨a, a1, a2, a3⟩
      by_cases hai : a = i
      · subst hai; rw [if_pos a2]; omega
      · have := ih.2 ⟨a, by omega, a2, a3⟩
        split <;> omega
def upK (f : Nat → Nat → Bool) (r : Nat) : Nat → Nat → Nat
  | 0, _ => 0
  | k + 1, b => foM f (upK f r k) b r
theorem upK_le {f : Nat → Nat → Bool} {r : Nat} : ∀ {k b n : Nat}, b < r → (n ≤ upK f r k b ↔ n ≤ k ∧ ∃ c, Pth f r n c b)
  | 0, b, n, hb => by
    unfold upK
    constructor
    · intro h; obtain rfl : n = 0 := by omega
      exact ⟨h, b, rfl, hb⟩
    · rintro ⟨h, _⟩; exact h
  | k + 1, b, 0, hb => ⟨fun _ => ⟨Nat.zero_le _, b, rfl, hb⟩, fun _ => Nat.zero_le _⟩
  | k + 1, b, n + 1, hb => by
    unfold upK
    rw [foM_le r]
    constructor
    · rintro ⟨a, a1, a2, a3⟩
      obtain ⟨h1, c, h2⟩ := (upK_le a1).1 a3
      exact ⟨by omega, c, a, h2, a2, hb⟩
    · rintro ⟨h, c, a, h1, h2, h3⟩
      exact ⟨a, h1.lt.2, h2, (upK_le h1.lt.2).2 ⟨by omega, c, h1⟩⟩

/-- a question with a line that goes along it -/
structure Goes (f q : Nat → Nat → Bool) (r : Nat) : Prop where
  lin : Lin q r
  imp : ∀ a b, f a b = true → a < r ∧ b < r ∧ q a b = true
theorem Goes.few {f q : Nat → Nat → Bool} {r : Nat} (G : Goes f q r) : ∀ {n a b : Nat}, Pth f r n a b → placeN q r a + n ≤ placeN q r b
  | 0, a, b, h => by obtain ⟨rfl, _⟩ := h; exact Nat.le_refl _
  | n + 1, a, c, h => by
    obtain ⟨b, h1, h2, h3⟩ := h
    have := G.few h1
    have := G.lin.mono h1.lt.2 h3 (G.imp _ _ h2).2.2
    omega
theorem Goes.lt {f q : Nat → Nat → Bool} {r n a b : Nat} (G : Goes f q r) (h : Pth f r n a b) : n < r := by
  have := G.few h
  have := G.lin.lt h.lt.2
  omega
/-- the most steps that end at a room -/
def hiM (f : Nat → Nat → Bool) (r b : Nat) : Nat := upK f r r b
theorem Goes.hi {f q : Nat → Nat → Bool} {r b n : Nat} (G : Goes f q r) (hb : b < r) : n ≤ hiM f r b ↔ ∃ c, Pth f r n c b := by
  unfold hiM
  rw [upK_le hb]
  exact ⟨fun h => h.2, fun h => ⟨by obtain ⟨c, hc⟩ := h; have := G.lt hc; omega, h⟩⟩
theorem nat_ext {x y : Nat} (h : ∀ n, n + 1 ≤ x ↔ n + 1 ≤ y) : x = y := by
  rcases Nat.lt_trichotomy x y with h1 | h1 | h1
  · have := (h x).2 h1; omega
  · exact h1
  · have := (h y).1 h1; omega
theorem Goes.fix {f q : Nat → Nat → Bool} {r b : Nat} (G : Goes f q r) (hb : b < r) : foM f (hiM f r) b r = hiM f r b := by
  apply nat_ext
  intro n
  rw [foM_le r, G.hi hb]
  constructor
  · rintro ⟨a, a1, a2, a3⟩
    obtain ⟨c, hc⟩ := (G.hi a1).1 a3
    exact ⟨c, a, hc, a2, hb⟩
  · rintro ⟨c, a, h1, h2, h3⟩
    exact ⟨a, h1.lt.2, h2, (G.hi h1.lt.2).2 ⟨c, h1⟩⟩
theorem foM_few {f q : Nat → Nat → Bool} {r b i : Nat} (G : Goes f q r) (hb : b < r) (hi : i ≤ r) : foM f (hiM f r) b i ≤ r := by
  rcases Nat.eq_zero_or_pos (foM f (hiM f r) b i) with h | h
  · omega
  · obtain ⟨a, a1, a2, a3⟩ := (foM_le (f := f) (v := hiM f r) (b := b) (n := foM f (hiM f r) b i - 1) i).1 (by omega)
    obtain ⟨c, hc⟩ := (G.hi (by omega)).1 a3
    have := G.lt hc
    omega
theorem Goes.hi_lt {f q : Nat → Nat → Bool} {r b : Nat} (G : Goes f q r) (hb : b < r) : hiM f r b < r := by
  obtain ⟨c, hc⟩ := (G.hi hb).1 (Nat.le_refl _)
  exact G.lt hc

/-- the longest row: the greatest number along a line, one more -/
def moM (f q : Nat → Nat → Bool) (r : Nat) : Nat → Nat
  | 0 => 0
  | k + 1 => max (moM f q r k) (hiM f r ((lineN q r r).getD k 0) + 1)
def lonQ (f q : Nat → Nat → Bool) (r : Nat) : Nat := moM f q r r
theorem moM_le {f q : Nat → Nat → Bool} {r n : Nat} : ∀ k, (n + 1 ≤ moM f q r k ↔ ∃ i, i < k ∧ n ≤ hiM f r ((lineN q r r).getD i 0))
  | 0 => by unfold moM; constructor; · intro h; omega
            · rintro ⟨a, h, _⟩; omega
  | k + 1 => by
    have ih := moM_le (f := f) (q := q) (r := r) (n := n) k
    unfold moM
    constructor
    · intro h
      by_cases h2 : n ≤ hiM f r ((lineN q r r).getD k 0)
      · exact ⟨k, by omega, h2⟩
      · obtain ⟨i, i1, i2⟩ := ih.1 (by omega)
        exact ⟨i, by omega, i2⟩
    · rintro ⟨i, i1, i2⟩
      by_cases hik : i = k
      · subst hik; omega
      · have := ih.2 ⟨i, by omega, i2⟩; omega
theorem Goes.long {f q : Nat → Nat → Bool} {r n : Nat} (G : Goes f q r) : n + 1 ≤ lonQ f q r ↔ ∃ a b, Pth f r n a b := by
  unfold lonQ
  rw [moM_le]
  constructor
  · rintro ⟨i, i1, i2⟩
    obtain ⟨c, hc⟩ := (G.hi (G.lin.back i1).2).1 i2
    exact ⟨c, _, hc⟩
  · rintro ⟨a, b, h⟩
    refine ⟨placeN q r b, G.lin.lt h.lt.2, ?_⟩
    rw [G.lin.line h.lt.2]
    exact (G.hi h.lt.2).2 ⟨a, h⟩
theorem Goes.long_le {f q : Nat → Nat → Bool} {r : Nat} (G : Goes f q r) : lonQ f q r ≤ r := by
  rcases Nat.eq_zero_or_pos (lonQ f q r) with h | h
  · omega
  · obtain ⟨a, b, hp⟩ := (G.long (n := lonQ f q r - 1)).1 (by omega)
    have := G.lt hp
    omega
theorem moM_few {f q : Nat → Nat → Bool} {r k : Nat} (G : Goes f q r) (hk : k ≤ r) : moM f q r k ≤ r := by
  rcases Nat.eq_zero_or_pos (moM f q r k) with h | h
  · omega
  · obtain ⟨i, i1, i2⟩ := (moM_le (f := f) (q := q) (r := r) (n := moM f q r k - 1) k).1 (by omega)
    have := G.hi_lt (G.lin.back (k := i) (by omega)).2
    omega

/-! # from ahead -/
/-- the most rooms that begin at one -/
def loM (f : Nat → Nat → Bool) (r a : Nat) : Nat := hiM (fun x y => f y x) r a + 1
theorem Goes.lo {f q : Nat → Nat → Bool} {r a n : Nat} (G : Goes f q r) (ha : a < r) : n + 1 ≤ loM f r a ↔ ∃ b, Pth f r n a b := by
  unfold loM hiM
  rw [Nat.add_le_add_iff_right, upK_le ha]
  constructor
  · rintro ⟨_, c, hc⟩; exact ⟨c, hc.rev⟩
  · rintro ⟨b, hb⟩
    exact ⟨by have := G.lt hb; omega, b, hb.rev⟩
theorem loM_pos (f : Nat → Nat → Bool) (r a : Nat) : 1 ≤ loM f r a := by unfold loM; omega
theorem Goes.lo_step {f q : Nat → Nat → Bool} {r a b : Nat} (G : Goes f q r) (hf : f a b = true) : loM f r b + 1 ≤ loM f r a := by
  obtain ⟨ha, hb, _⟩ := G.imp _ _ hf
  have h1 := loM_pos f r b
  obtain ⟨c, hc⟩ := (G.lo (n := loM f r b - 1) hb).1 (by omega)
  have := (G.lo (n := loM f r b - 1 + 1) ha).2 ⟨c, hc.front ha hf⟩
  omega
theorem Goes.lo_some {f q : Nat → Nat → Bool} {r a : Nat} (G : Goes f q r) (ha : a < r) (h : 2 ≤ loM f r a) : ∃ b, b < r ∧ f a b = true ∧ loM f r a ≤ loM f r b + 1 := by
  obtain ⟨c, hc⟩ := (G.lo (n := loM f r a - 2 + 1) ha).1 (by omega)
  obtain ⟨b, b1, b2⟩ := Pth.split hc
  have := (G.lo b2.lt.1).2 ⟨c, b2⟩
  exact ⟨b, b2.lt.1, b1, by omega⟩
theorem Goes.lo_le {f q : Nat → Nat → Bool} {r a : Nat} (G : Goes f q r) (ha : a < r) : loM f r a ≤ lonQ f q r := by
  have h1 := loM_pos f r a
  obtain ⟨c, hc⟩ := (G.lo (n := loM f r a - 1) ha).1 (by omega)
  have := G.long.2 ⟨a, c, hc⟩
  omega
theorem Goes.lo_is {f q : Nat → Nat → Bool} {r : Nat} (G : Goes f q r) (hr : 1 ≤ r) : ∃ a, a < r ∧ lonQ f q r ≤ loM f r a := by
  have h1 : 1 ≤ lonQ f q r := (G.long (n := 0)).2 ⟨0, 0, rfl, by omega⟩
  obtain ⟨a, b, hp⟩ := (G.long (n := lonQ f q r - 1)).1 (by omega)
  have := (G.lo hp.lt.1).2 ⟨b, hp⟩
  exact ⟨a, hp.lt.1, by omega⟩
end Go.Proofs.Ytcapagegeomebaa
