
/-
  Merged texts: LonM LonI LonS LonT.
-/
import Derived.Test.YtjdlapcikpmdgaaOrdAB

/-
  Longest rows of rooms, each led to by the one ahead: from behind and from ahead. (Plain mathematics.)
-/
namespace Go.Proofs.Ytjdlapcikpmdgaa

/-- a way of so many steps -/
def Pth (f : Nat → Nat → Bool) (r : Nat) : Nat → Nat → Nat → Prop
  | 0, a, b => a = b ∧ a < r
  | n + 1, a, c => ∃ b, Pth f r n a b ∧ f b c = true ∧ c < r
theorem Pth.lt {f : Nat → Nat → Bool} {r : Nat} : ∀ {n a b : Nat}, Pth f r n a b → a < r ∧ b < r
  | 0, a, b, h => by obtain ⟨rfl, h⟩ := h; exact ⟨h, h⟩
  | n + 1, a, b, h => by
    obtain ⟨c, h1, _, h3⟩ := h
    exact ⟨(Pth.lt h1).1, h3⟩
theorem Pth.front {f : Nat → Nat → Bool} {r : Nat} : ∀ {n a b c : Nat}, a < r → f a b = true → Pth f r n b c → Pth f r (n + 1) a c
  | 0, a, b, c, ha, hf, h => by obtain ⟨rfl, h⟩ := h; exact ⟨a, ⟨rfl, ha⟩, hf, h⟩
  | n + 1, a, b, c, ha, hf, h => by
    obtain ⟨d, h1, h2, h3⟩ := h
    exact ⟨d, Pth.front ha hf h1, h2, h3⟩
theorem Pth.split {f : Nat → Nat → Bool} {r : Nat} : ∀ {n a c : Nat}, Pth f r (n + 1) a c → ∃ b, f a b = true ∧ Pth f r n b c
  | 0, a, c, h => by
    obtain ⟨b, ⟨rfl, _⟩, h2, h3⟩ := h
    exact ⟨c, h2, rfl, h3⟩
  | n + 1, a, c, h => by
    obtain ⟨d, h1, h2, h3⟩ := h
    obtain ⟨b, b1, b2⟩ := Pth.split h1
    exact ⟨b, b1, d, b2, h2, h3⟩
theorem Pth.rev {f : Nat → Nat → Bool} {r : Nat} : ∀ {n a b : Nat}, Pth f r n a b → Pth (fun x y => f y x) r n b a
  | 0, a, b, h => by obtain ⟨rfl, h⟩ := h; exact ⟨rfl, h⟩
  | n + 1, a, c, h => by
    obtain ⟨b, h1, h2, h3⟩ := h
    exact Pth.front (f := fun x y => f y x) h3 h2 (Pth.rev h1)

/-- the most of what leads to a room, one more -/
def foM (f : Nat → Nat → Bool) (v : Nat → Nat) (b : Nat) : Nat → Nat
  | 0 => 0
  | i + 1 => if f i b = true then max (foM f v b i) (v i + 1) else foM f v b i
theorem foM_le {f : Nat → Nat → Bool} {v : Nat → Nat} {b n : Nat} : ∀ i, (n + 1 ≤ foM f v b i ↔ ∃ a, a < i ∧ f a b = true ∧ n ≤ v a)
  | 0 => by unfold foM; constructor; · intro h; omega
            · rintro ⟨a, h, _⟩; omega
  | i + 1 => by
    have ih := foM_le (f := f) (v := v) (b := b) (n := n) i
    unfold foM
    constructor
    · intro h
      split at h
      · rename_i hf
        by_cases h2 : n ≤ v i
        · exact ⟨i, by omega, hf, h2⟩
        · obtain ⟨a, a1, a2⟩ := ih.1 (by omega)
          exact ⟨a, by omega, a2⟩
      · obtain ⟨a, a1, a2⟩ := ih.1 h
        exact ⟨a, by omega, a2⟩
    · rintro ⟨a, a1, a2, a3⟩
      by_cases hai : a = i
      · subst hai; rw [if_pos a2]; omega
      · have := ih.2 ⟨a, by omega, a2, a3⟩
        split <;> omega
def upK (f : Nat → Nat → Bool) (r : Nat) : Nat → Nat → Nat
  | 0, _ => 0
  | k + 1, b => foM f (upK f r k) b r
theorem upK_le {f : Nat → Nat → Bool} {r : Nat} : ∀ {k b n : Nat}, b < r → (n ≤ upK f r k b ↔ n ≤ k ∧ ∃ c, Pth f r n c b)
  | 0, b, n, hb => by
    unfold upK
    constructor
    · intro h; obtain rfl : n = 0 := by omega
      exact ⟨h, b, rfl, hb⟩
    · rintro ⟨h, _⟩; exact h
  | k + 1, b, 0, hb => ⟨fun _ => ⟨Nat.zero_le _, b, rfl, hb⟩, fun _ => Nat.zero_le _⟩
  | k + 1, b, n + 1, hb => by
    unfold upK
    rw [foM_le r]
    constructor
    · rintro ⟨a, a1, a2, a3⟩
      obtain ⟨h1, c, h2⟩ := (upK_le a1).1 a3
      exact ⟨by omega, c, a, h2, a2, hb⟩
    · rintro ⟨h, c, a, h1, h2, h3⟩
      exact ⟨a, h1.lt.2, h2, (upK_le h1.lt.2).2 ⟨by omega, c, h1⟩⟩

/-- a question with a line that goes along it -/
structure Goes (f q : Nat → Nat → Bool) (r : Nat) : Prop where
  lin : Lin q r
  imp : ∀ a b, f a b = true → a < r ∧ b < r ∧ q a b = true
theorem Goes.few {f q : Nat → Nat → Bool} {r : Nat} (G : Goes f q r) : ∀ {n a b : Nat}, Pth f r n a b → placeN q r a + n ≤ placeN q r b
  | 0, a, b, h => by obtain ⟨rfl, _⟩ := h; exact Nat.le_refl _
  | n + 1, a, c, h => by
    obtain ⟨b, h1, h2, h3⟩ := h
    have := G.few h1
    have := G.lin.mono h1.lt.2 h3 (G.imp _ _ h2).2.2
    omega
theorem Goes.lt {f q : Nat → Nat → Bool} {r n a b : Nat} (G : Goes f q r) (h : Pth f r n a b) : n < r := by
  have := G.few h
  have := G.lin.lt h.lt.2
  omega
/-- the most steps that end at a room -/
def hiM (f : Nat → Nat → Bool) (r b : Nat) : Nat := upK f r r b
theorem Goes.hi {f q : Nat → Nat → Bool} {r b n : Nat} (G : Goes f q r) (hb : b < r) : n ≤ hiM f r b ↔ ∃ c, Pth f r n c b := by
  unfold hiM
  rw [upK_le hb]
  exact ⟨fun h => h.2, fun h => ⟨by obtain ⟨c, hc⟩ := h; have := G.lt hc; omega, h⟩⟩
theorem nat_ext {x y : Nat} (h : ∀ n, n + 1 ≤ x ↔ n + 1 ≤ y) : x = y := by
  rcases Nat.lt_trichotomy x y with h1 | h1 | h1
  · have := (h x).2 h1; omega
  · exact h1
  · have := (h y).1 h1; omega
theorem Goes.fix {f q : Nat → Nat → Bool} {r b : Nat} (G : Goes f q r) (hb : b < r) : foM f (hiM f r) b r = hiM f r b := by
  apply nat_ext
  intro n
  rw [foM_le r, G.hi hb]
  constructor
  · rintro ⟨a, a1, a2, a3⟩
    obtain ⟨c, hc⟩ := (G.hi a1).1 a3
    exact ⟨c, a, hc, a2, hb⟩
  · rintro ⟨c, a, h1, h2, h3⟩
    exact ⟨a, h1.lt.2, h2, (G.hi h1.lt.2).2 ⟨c, h1⟩⟩
theorem foM_few {f q : Nat → Nat → Bool} {r b i : Nat} (G : Goes f q r) (hb : b < r) (hi : i ≤ r) : foM f (hiM f r) b i ≤ r := by
  rcases Nat.eq_zero_or_pos (foM f (hiM f r) b i) with h | h
  · omega
  · obtain ⟨a, a1, a2, a3⟩ := (foM_le (f := f) (v := hiM f r) (b := b) (n := foM f (hiM f r) b i - 1) i).1 (by omega)
    obtain ⟨c, hc⟩ := (G.hi (by omega)).1 a3
    have := G.lt hc
    omega
theorem Goes.hi_lt {f q : Nat → Nat → Bool} {r b : Nat} (G : Goes f q r) (hb : b < r) : hiM f r b < r := by
  obtain ⟨c, hc⟩ := (G.hi hb).1 (Nat.le_refl _)
  exact G.lt hc

/-- the longest row: the greatest number along a line, one more -/
def moM (f q : Nat → Nat → Bool) (r : Nat) : Nat → Nat
  | 0 => 0
  | k + 1 => max (moM f q r k) (hiM f r ((lineN q r r).getD k 0) + 1)
def lonQ (f q : Nat → Nat → Bool) (r : Nat) : Nat := moM f q r r
theorem moM_le {f q : Nat → Nat → Bool} {r n : Nat} : ∀ k, (n + 1 ≤ moM f q r k ↔ ∃ i, i < k ∧ n ≤ hiM f r ((lineN q r r).getD i 0))
  | 0 => by unfold moM; constructor; · intro h; omega
            · rintro ⟨a, h, _⟩; omega
  | k + 1 => by
    have ih := moM_le (f := f) (q := q) (r := r) (n := n) k
    unfold moM
    constructor
    · intro h
      by_cases h2 : n ≤ hiM f r ((lineN q r r).getD k 0)
      · exact ⟨k, by omega, h2⟩
      · obtain ⟨i, i1, i2⟩ := ih.1 (by omega)
        exact ⟨i, by omega, i2⟩
    · rintro ⟨i, i1, i2⟩
      by_cases hik : i = k
      · subst hik; omega
      · have := ih.2 ⟨i, by omega, i2⟩; omega
theorem Goes.long {f q : Nat → Nat → Bool} {r n : Nat} (G : Goes f q r) : n + 1 ≤ lonQ f q r ↔ ∃ a b, Pth f r n a b := by
  unfold lonQ
  rw [moM_le]
  constructor
  · rintro ⟨i, i1, i2⟩
    obtain ⟨c, hc⟩ := (G.hi (G.lin.back i1).2).1 i2
    exact ⟨c, _, hc⟩
  · rintro ⟨a, b, h⟩
    refine ⟨placeN q r b, G.lin.lt h.lt.2, ?_⟩
    rw [G.lin.line h.lt.2]
    exact (G.hi h.lt.2).2 ⟨a, h⟩
theorem Goes.long_le {f q : Nat → Nat → Bool} {r : Nat} (G : Goes f q r) : lonQ f q r ≤ r := by
  rcases Nat.eq_zero_or_pos (lonQ f q r) with h | h
  · omega
  · obtain ⟨a, b, hp⟩ := (G.long (n := lonQ f q r - 1)).1 (by omega)
    have := G.lt hp
    omega
theorem moM_few {f q : Nat → Nat → Bool} {r k : Nat} (G : Goes f q r) (hk : k ≤ r) : moM f q r k ≤ r := by
  rcases Nat.eq_zero_or_pos (moM f q r k) with h | h
  · omega
  · obtain ⟨i, i1, i2⟩ := (moM_le (f := f) (q := q) (r := r) (n := moM f q r k - 1) k).1 (by omega)
    have := G.hi_lt (G.lin.back (k := i) (by omega)).2
    omega

/-! # from ahead -/
/-- the most rooms that begin at one -/
def loM (f : Nat → Nat → Bool) (r a : Nat) : Nat := hiM (fun x y => f y x) r a + 1
theorem Goes.lo {f q : Nat → Nat → Bool} {r a n : Nat} (G : Goes f q r) (ha : a < r) : n + 1 ≤ loM f r a ↔ ∃ b, Pth f r n a b := by
  unfold loM hiM
  rw [Nat.add_le_add_iff_right, upK_le ha]
  constructor
  · rintro ⟨_, c, hc⟩; exact ⟨c, hc.rev⟩
  · rintro ⟨b, hb⟩
    exact ⟨by have := G.lt hb; omega, b, hb.rev⟩
theorem loM_pos (f : Nat → Nat → Bool) (r a : Nat) : 1 ≤ loM f r a := by unfold loM; omega
theorem Goes.lo_step {f q : Nat → Nat → Bool} {r a b : Nat} (G : Goes f q r) (hf : f a b = true) : loM f r b + 1 ≤ loM f r a := by
  obtain ⟨ha, hb, _⟩ := G.imp _ _ hf
  have h1 := loM_pos f r b
  obtain ⟨c, hc⟩ := (G.lo (n := loM f r b - 1) hb).1 (by omega)
  have := (G.lo (n := loM f r b - 1 + 1) ha).2 ⟨c, hc.front ha hf⟩
  omega
theorem Goes.lo_some {f q : Nat → Nat → Bool} {r a : Nat} (G : Goes f q r) (ha : a < r) (h : 2 ≤ loM f r a) : ∃ b, b < r ∧ f a b = true ∧ loM f r a ≤ loM f r b + 1 := by
  obtain ⟨c, hc⟩ := (G.lo (n := loM f r a - 2 + 1) ha).1 (by omega)
  obtain ⟨b, b1, b2⟩ := Pth.split hc
  have := (G.lo b2.lt.1).2 ⟨c, b2⟩
  exact ⟨b, b2.lt.1, b1, by omega⟩
theorem Goes.lo_le {f q : Nat → Nat → Bool} {r a : Nat} (G : Goes f q r) (ha : a < r) : loM f r a ≤ lonQ f q r := by
  have h1 := loM_pos f r a
  obtain ⟨c, hc⟩ := (G.lo (n := loM f r a - 1) ha).1 (by omega)
  have := G.long.2 ⟨a, c, hc⟩
  omega
theorem Goes.lo_is {f q : Nat → Nat → Bool} {r : Nat} (G : Goes f q r) (hr : 1 ≤ r) : ∃ a, a < r ∧ lonQ f q r ≤ loM f r a := by
  have h1 : 1 ≤ lonQ f q r := (G.long (n := 0)).2 ⟨0, 0, rfl, by omega⟩
  obtain ⟨a, b, hp⟩ := (G.long (n := lonQ f q r - 1)).1 (by omega)
  have := (G.lo hp.lt.1).2 ⟨b, hp⟩
  exact ⟨a, hp.lt.1, by omega⟩
end Go.Proofs.Ytjdlapcikpmdgaa

/-
  The longest rows of rooms: the program's. (Walks.)
-/
namespace Go.Proofs.Ytjdlapcikpmdgaa
open Go.RowKit

/-- nine numbers -/
def nineC (v : Nat → Nat) : Array Value := ((List.range 9).map fun b => Value.int .i64 ((v b : Nat) : Int)).toArray
theorem nineC_size (v : Nat → Nat) : (nineC v).size = 9 := by simp [nineC]
theorem nineC_at {v : Nat → Nat} {b : Nat} (h : b < 9) : (nineC v)[b]? = some (.int .i64 ((v b : Nat) : Int)) := by simp [nineC, h]
theorem nineC_put (v : Nat → Nat) {b : Nat} (h : b < 9) (m : Nat) : (nineC v).setIfInBounds b (.int .i64 (m : Nat)) = nineC (fun x => if x = b then m else v x) := by
  apply Array.ext_getElem?
  intro i
  rw [Array.getElem?_setIfInBounds]
  by_cases hi : b = i
  · subst hi; rw [if_pos rfl, if_pos (by rw [nineC_size]; exact h), nineC_at h, if_pos rfl]
  · rw [if_neg hi]
    by_cases h9 : i < 9
    · rw [nineC_at h9, nineC_at h9, if_neg (fun e => hi e.symm)]
    · rw [Array.getElem?_eq_none (by rw [nineC_size]; omega), Array.getElem?_eq_none (by rw [nineC_size]; omega)]
theorem nineC_same {v v' : Nat → Nat} (h : ∀ b, b < 9 → v b = v' b) : nineC v = nineC v' := by
  unfold nineC
  congr 1
  refine List.map_congr_left fun i hi => ?_
  rw [h i (List.mem_range.1 hi)]
theorem zero_nine : nineC (fun _ => 0) = #[.int .i64 0, .int .i64 0, .int .i64 0, .int .i64 0, .int .i64 0, .int .i64 0, .int .i64 0, .int .i64 0, .int .i64 0] := by kernel_rfl
/-- what is known once the first rooms of the line are gone through -/
def vK (f q : Nat → Nat → Bool) (r k x : Nat) : Nat := if x < r ∧ placeN q r x < k then hiM f r x else 0
def vI (f q : Nat → Nat → Bool) (r k b i x : Nat) : Nat := if x = b then foM f (hiM f r) b i else vK f q r k x
theorem vK_zero (f q : Nat → Nat → Bool) (r x : Nat) : vK f q r 0 x = 0 := by unfold vK; rw [if_neg (by omega)]
theorem vI_zero {f q : Nat → Nat → Bool} {r k b : Nat} (hb : placeN q r b = k) (x : Nat) : vI f q r k b 0 x = vK f q r k x := by
  unfold vI
  by_cases h : x = b
  · subst h; rw [if_pos rfl]; unfold vK foM; rw [if_neg (by omega)]
  · rw [if_neg h]
theorem vI_all {f q : Nat → Nat → Bool} {r k b : Nat} (G : Goes f q r) (hbr : b < r) (hb : placeN q r b = k) (x : Nat) : vI f q r k b r x = vK f q r (k + 1) x := by
  unfold vI
  by_cases h : x = b
  · subst h; rw [if_pos rfl, G.fix hbr]; unfold vK; rw [if_pos ⟨hbr, by omega⟩]
  · rw [if_neg h]
    unfold vK
    by_cases hx : x < r ∧ placeN q r x < k
    · rw [if_pos hx, if_pos ⟨hx.1, by omega⟩]
    · rw [if_neg hx, if_neg ?_]
      rintro ⟨h1, h2⟩
      have : placeN q r x ≠ k := fun e => h (G.lin.inj h1 hbr (by omega))
      exact hx ⟨h1, by omega⟩
theorem vI_self (f q : Nat → Nat → Bool) (r k b i : Nat) : vI f q r k b i b = foM f (hiM f r) b i := by unfold vI; rw [if_pos rfl]
theorem vI_ahead {f q : Nat → Nat → Bool} {r k b i : Nat} (G : Goes f q r) (hb : placeN q r b = k) (j : Nat) (hf : f i b = true) : vI f q r k b j i = hiM f r i := by
  obtain ⟨h1, h2, h3⟩ := G.imp _ _ hf
  have hne : i ≠ b := fun e => by subst e; rw [G.lin.irr i h1] at h3; cases h3
  have := G.lin.mono h1 h2 h3
  unfold vI vK
  rw [if_neg hne, if_pos ⟨h1, by omega⟩]
theorem vI_step {f q : Nat → Nat → Bool} {r k b i : Nat} (hf : f i b = true) : (fun x => if x = b then max (foM f (hiM f r) b i) (hiM f r i + 1) else vI f q r k b i x) = vI f q r k b (i + 1) := by
  funext x
  unfold vI
  by_cases h : x = b
  · subst h; rw [if_pos rfl, if_pos rfl, foM, if_pos hf]
  · rw [if_neg h, if_neg h, if_neg h]
theorem vI_skip {f q : Nat → Nat → Bool} {r k b i : Nat} (hf : f i b = false) : vI f q r k b i = vI f q r k b (i + 1) := by
  funext x
  unfold vI
  by_cases h : x = b
  · subst h; rw [if_pos rfl, if_pos rfl, foM, hf]; simp
  · rw [if_neg h, if_neg h]

theorem max_int (y z : Nat) : (if (y : Int) < (z : Int) + 1 then (z : Int) + 1 else (y : Int)) = ((max y (z + 1) : Nat) : Int) := by
  split <;> omega
theorem vK_here {f q : Nat → Nat → Bool} {r k b : Nat} (hbr : b < r) (hb : placeN q r b = k) : vK f q r (k + 1) b = hiM f r b := by unfold vK; rw [if_pos ⟨hbr, by omega⟩]

end Go.Proofs.Ytjdlapcikpmdgaa

/-
  The longest rows of rooms: the model's, and both answers. (Walks.)
-/
namespace Go.Proofs.Ytjdlapcikpmdgaa
open Go.RowKit

/-! # numbers that grow round by round -/
structure BeA (G : Nat → Nat) (r t : Nat) (S : List Nat) : Prop where
  len : S.length = r
  up : ∀ a, a < r → S.getD a 0 ≤ G a
  lo : ∀ a, a < r → min t (G a) ≤ S.getD a 0
structure BeI (G : Nat → Nat) (M r t i m : Nat) (S : List Nat) : Prop where
  all : BeA G r t S
  few : m ≤ M
  hi : ∀ a, a < i → min (t + 1) (G a) ≤ S.getD a 0
  mo : ∀ a, a < i → S.getD a 0 ≤ m
structure BeJ (f : Nat → Nat → Bool) (G : Nat → Nat) (M r t i m j : Nat) (S : List Nat) : Prop where
  old : BeI G M r t i m S
  one : 1 ≤ S.getD i 0
  st : ∀ b, b < j → f i b = true → S.getD b 0 + 1 ≤ S.getD i 0
theorem BeI.start {G : Nat → Nat} {M r t m : Nat} {S : List Nat} (h : BeA G r t S) (hm : m ≤ M) : BeI G M r t 0 m S := ⟨h, hm, fun a ha => by omega, fun a ha => by omega⟩
theorem BeI.grow {G : Nat → Nat} {M r t i m : Nat} {S : List Nat} (h : BeI G M r t i m S) (hi : i < r) {v : Nat} (h1 : S.getD i 0 ≤ v) (h2 : v ≤ G i) : BeI G M r t i m (S.set i v) := by
  have hl := h.all.len
  have hs : ∀ a, (S.set i v).getD a 0 = if a = i then v else S.getD a 0 := fun a => getD_set S i a v (by omega)
  refine ⟨⟨by rw [List.length_set]; exact hl, fun a ha => ?_, fun a ha => ?_⟩, h.few, fun a ha => ?_, fun a ha => ?_⟩
  · rw [hs]; split
    · rename_i e; subst e; exact h2
    · exact h.all.up a ha
  · rw [hs]; split
    · rename_i e; subst e; have := h.all.lo a ha; omega
    · exact h.all.lo a ha
  · rw [hs, if_neg (by omega)]; exact h.hi a ha
  · rw [hs, if_neg (by omega)]; exact h.mo a ha
theorem BeI.first {f : Nat → Nat → Bool} {G : Nat → Nat} {M r t i m : Nat} {S : List Nat} (h : BeI G M r t i m S) (hi : i < r) (hG : 1 ≤ G i) : BeJ f G M r t i m 0 (S.set i (max (S.getD i 0) 1)) := by
  have hup := h.all.up i hi
  refine ⟨h.grow hi (by omega) (by omega), ?_, fun b hb => by omega⟩
  rw [getD_set _ _ _ _ (by rw [h.all.len]; exact hi), if_pos rfl]; omega
theorem BeJ.skip {f : Nat → Nat → Bool} {G : Nat → Nat} {M r t i m j : Nat} {S : List Nat} (h : BeJ f G M r t i m j S) (hf : f i j = false) : BeJ f G M r t i m (j + 1) S :=
  ⟨h.old, h.one, fun b hb hfb => by
    by_cases hbj : b = j
    · subst hbj; rw [hf] at hfb; cases hfb
    · exact h.st b (by omega) hfb⟩
theorem BeJ.step {f : Nat → Nat → Bool} {G : Nat → Nat} {M r t i m j : Nat} {S : List Nat} (h : BeJ f G M r t i m j S) (hi : i < r) (hj : j < r) (hirr : ∀ b, f i b = true → b ≠ i) (hf : f i j = true) (hG : G j + 1 ≤ G i) :
    BeJ f G M r t i m (j + 1) (S.set i (max (S.getD i 0) (S.getD j 0 + 1))) := by
  have h1 := h.old.all.up i hi
  have h2 := h.old.all.up j hj
  have hs : ∀ a, (S.set i (max (S.getD i 0) (S.getD j 0 + 1))).getD a 0 = if a = i then max (S.getD i 0) (S.getD j 0 + 1) else S.getD a 0 := fun a => getD_set S i a _ (by rw [h.old.all.len]; exact hi)
  refine ⟨h.old.grow hi (by omega) (by omega), ?_, fun b hb hfb => ?_⟩
  · rw [hs, if_pos rfl]; have := h.one; omega
  · rw [hs, hs, if_pos rfl, if_neg (hirr b hfb)]
    by_cases hbj : b = j
    · subst hbj; omega
    · have := h.st b (by omega) hfb; omega
theorem BeJ.done {f : Nat → Nat → Bool} {G : Nat → Nat} {M r t i m : Nat} {S : List Nat} (h : BeJ f G M r t i m r S) (hi : i < r) (hsome : 2 ≤ G i → ∃ b, b < r ∧ f i b = true ∧ G i ≤ G b + 1) (hM : G i ≤ M) : BeI G M r t (i + 1) (max m (S.getD i 0)) S := by
  have h1 := h.old.all.up i hi
  have h3 := h.one
  have key : min (t + 1) (G i) ≤ S.getD i 0 := by
    rcases Nat.lt_or_ge (G i) 2 with hg | hg
    · omega
    · obtain ⟨b, b1, b2, b3⟩ := hsome hg
      have h4 := h.st b b1 b2
      have h5 := h.old.all.lo b b1
      omega
  refine ⟨h.old.all, by have := h.old.few; omega, fun a ha => ?_, fun a ha => ?_⟩
  · by_cases hai : a = i
    · subst hai; exact key
    · exact h.old.hi a (by omega)
  · by_cases hai : a = i
    · subst hai; omega
    · have := h.old.mo a (by omega); omega
theorem BeI.round {G : Nat → Nat} {M r t m : Nat} {S : List Nat} (h : BeI G M r t r m S) : BeA G r (t + 1) S ∧ ∀ a, a < r → S.getD a 0 ≤ m := ⟨⟨h.all.len, h.all.up, h.hi⟩, h.mo⟩

theorem max_one (y : Nat) : (if (y : Int) < 1 then (1 : Int) else (y : Int)) = ((max y 1 : Nat) : Int) := by split <;> omega
theorem max_int1 (y z : Nat) : (if (y : Int) < 1 + (z : Int) then 1 + (z : Int) else (y : Int)) = ((max y (z + 1) : Nat) : Int) := by split <;> omega
theorem max_int0 (y z : Nat) : (if y < z then (z : Int) else (y : Int)) = ((max y z : Nat) : Int) := by split <;> omega

end Go.Proofs.Ytjdlapcikpmdgaa

/-
  The longest rows of rooms: both answers. (Walks.)
-/
namespace Go.Proofs.Ytjdlapcikpmdgaa
open Go.RowKit

theorem pL_goes {p : List ByteArray} (h : plainB p = true) {way : Nat} (hw : way < 2) : Goes (pL p way) (firstQ (pL p)) (gridR p) := by
  refine ⟨first_lin h, fun a b hab => ?_⟩
  obtain ⟨h1, h2⟩ := wars_in (justG_in (h := p.length) (wd := wideB p) (r := gridR p) (g := gridG p) (fun _ _ hi hj => gridG_lt hi hj) way) (gridR p) a b hab
  refine ⟨h1, h2, ?_⟩
  unfold firstQ
  rcases (show way = 0 ∨ way = 1 by omega) with rfl | rfl
  · rw [hab]; rfl
  · rw [hab, Bool.or_true]
theorem goesP (p : List ByteArray) {way : Nat} (hw : way < 2) : Goes (oF p way) (firstQ (oF p)) (oR p) := by
  cases h : plainB p
  · rw [oR_no h, show oF p = noF by unfold oF; rw [h]; rfl]
    exact ⟨⟨fun a ha => by omega, fun a b ha => by omega, fun a b c ha => by omega⟩, fun a b hab => by cases hab⟩
  · rw [oR_yes h, oF_yes h]; exact pL_goes h hw
def longP (p : List ByteArray) (way : Nat) : Nat := lonQ (oF p way) (firstQ (oF p)) (oR p)
theorem longP_no {p : List ByteArray} (h : plainB p = false) (way : Nat) : longP p way = 0 := by
  unfold longP; rw [oR_no h]; rfl
theorem longP_yes {p : List ByteArray} (h : plainB p = true) (way : Nat) : longP p way = lonQ (pL p way) (firstQ (pL p)) (gridR p) := by
  unfold longP; rw [oR_yes h, oF_yes h]
end Go.Proofs.Ytjdlapcikpmdgaa
