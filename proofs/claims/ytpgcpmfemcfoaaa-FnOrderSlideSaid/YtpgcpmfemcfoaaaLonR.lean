/-
  Merged texts: LonM LonI LonS LonT.
-/
import Derived.Test.YtpgcpmfemcfoaaaOrdABR
import Derived.Test.YtpgcpmfemcfoaaaRowR

/-
  Longest rows of rooms, each led to by the one ahead: from behind and from ahead. (Plain mathematics.)
-/
namespace Go.Proofs.Ytpgcpmfemcfoaaa

/-- a way of so many steps -/
def Pth (f : Nat → Nat → Bool) (r : Nat) : Nat → Nat → Nat → Prop
  | 0, a, b => a = b ∧ a < r
  | n + 1, a, c => ∃ b, Pth f r n a b ∧ f b c = true ∧ c < r
theorem Pth.lt {f : Nat → Nat → Bool} {r : Nat} : ∀ {n a b : Nat}, Pth f r n a b → a < r ∧ b < r
  | 0, a, b, h => by obtain ⟨rfl, h⟩ := h; exact ⟨h, h⟩
  | n + 1, a, b, h => by
    obtain ⟨c, h1, _, h3⟩ := h
    exact ⟨(Pth.lt h1).1, h3⟩
theorem Pth.front {f : Nat → Nat → Bool} {r : Nat} : ∀ {n a b c : Nat}, a < r → f a b = true → Pth f r n b c → Pth f r (n + 1) a c
  | 0, a, b, c, ha, hf, h => by obtain ⟨rfl, h⟩ := h; exact ⟨a, ⟨rfl, ha⟩, hf, h⟩
  | n + 1, a, b, c, ha, hf, h => by
    obtain ⟨d, h1, h2, h3⟩ := h
    exact ⟨d, Pth.front ha hf h1, h2, h3⟩
theorem Pth.rev {f : Nat → Nat → Bool} {r : Nat} : ∀ {n a b : Nat}, Pth f r n a b → Pth (fun x y => f y x) r n b a
  | 0, a, b, h => by obtain ⟨rfl, h⟩ := h; exact ⟨rfl, h⟩
  | n + 1, a, c, h => by
    obtain ⟨b, h1, h2, h3⟩ := h
    exact Pth.front (f := fun x y => f y x) h3 h2 (Pth.rev h1)

/-- the most of what leads to a room, one more -/
def foM (f : Nat → Nat → Bool) (v : Nat → Nat) (b : Nat) : Nat → Nat
  | 0 => 0
  | i + 1 => if f i b = true then max (foM f v b i) (v i + 1) else foM f v b i
theorem foM_le {f : Nat → Nat → Bool} {v : Nat → Nat} {b n : Nat} : ∀ i, (n + 1 ≤ foM f v b i ↔ ∃ a, a < i ∧ f a b = true ∧ n ≤ v a)
  | 0 => by unfold foM; constructor; · intro h; omega
            · rintro ⟨a, h, _⟩; omega
  | i + 1 => by
    have ih := foM_le (f := f) (v := v) (b := b) (n := n) i
    unfold foM
    constructor
    · intro h
      split at h
      · rename_i hf
        by_cases h2 : n ≤ v i
        · exact ⟨i, by omega, hf, h2⟩
        · obtain ⟨a, a1, a2⟩ := ih.1 (by omega)
          exact ⟨a, by omega, a2⟩
      · obtain ⟨a, a1, a2⟩ := ih.1 h
        exact ⟨a, by omega, a2⟩
    · rintro ⟨a, a1, a2, a3⟩
      by_cases hai : a = i
      · subst hai; rw [if_pos a2]; omega
      · have := ih.2 ⟨a, by omega, a2, a3⟩
        split <;> omega
def upK (f : Nat → Nat → Bool) (r : Nat) : Nat → Nat → Nat
  | 0, _ => 0
  | k + 1, b => foM f (upK f r k) b r
theorem upK_le {f : Nat → Nat → Bool} {r : Nat} : ∀ {k b n : Nat}, b < r → (n ≤ upK f r k b ↔ n ≤ k ∧ ∃ c, Pth f r n c b)
  | 0, b, n, hb => by
    unfold upK
    constructor
    · intro h; obtain rfl : n = 0 := by omega
      exact ⟨h, b, rfl, hb⟩
    · rintro ⟨h, _⟩; exact h
  | k + 1, b, 0, hb => ⟨fun _ => ⟨Nat.zero_le _, b, rfl, hb⟩, fun _ => Nat.zero_le _⟩
  | k + 1, b, n + 1, hb => by
    unfold upK
    rw [foM_le r]
    constructor
    · rintro ⟨a, a1, a2, a3⟩
      obtain ⟨h1, c, h2⟩ := (upK_le a1).1 a3
      exact ⟨by omega, c, a, h2, a2, hb⟩
    · rintro ⟨h, c, a, h1, h2, h3⟩
      exact ⟨a, h1.lt.2, h2, (upK_le h1.lt.2).2 ⟨by omega, c, h1⟩⟩

/-- a question with a line that goes along it -/
structure Goes (f q : Nat → Nat → Bool) (r : Nat) : Prop where
  lin : Lin q r
  imp : ∀ a b, f a b = true → a < r ∧ b < r ∧ q a b = true
theorem Goes.few {f q : Nat → Nat → Bool} {r : Nat} (G : Goes f q r) : ∀ {n a b : Nat}, Pth f r n a b → placeN q r a + n ≤ placeN q r b
  | 0, a, b, h => by obtain ⟨rfl, _⟩ := h; exact Nat.le_refl _
  | n + 1, a, c, h => by
    obtain ⟨b, h1, h2, h3⟩ := h
    have := G.few h1
    have := G.lin.mono h1.lt.2 h3 (G.imp _ _ h2).2.2
    omega
theorem Goes.lt {f q : Nat → Nat → Bool} {r n a b : Nat} (G : Goes f q r) (h : Pth f r n a b) : n < r := by
  have := G.few h
  have := G.lin.lt h.lt.2
  omega
/-- the most steps that end at a room -/
def hiM (f : Nat → Nat → Bool) (r b : Nat) : Nat := upK f r r b
theorem Goes.hi {f q : Nat → Nat → Bool} {r b n : Nat} (G : Goes f q r) (hb : b < r) : n ≤ hiM f r b ↔ ∃ c, Pth f r n c b := by
  unfold hiM
  rw [upK_le hb]
  exact ⟨fun h => h.2, fun h => ⟨by obtain ⟨c, hc⟩ := h; have := G.lt hc; omega, h⟩⟩
/-- the longest row: the greatest number along a line, one more -/
def moM (f q : Nat → Nat → Bool) (r : Nat) : Nat → Nat
  | 0 => 0
  | k + 1 => max (moM f q r k) (hiM f r ((lineN q r r).getD k 0) + 1)
def lonQ (f q : Nat → Nat → Bool) (r : Nat) : Nat := moM f q r r
theorem moM_le {f q : Nat → Nat → Bool} {r n : Nat} : ∀ k, (n + 1 ≤ moM f q r k ↔ ∃ i, i < k ∧ n ≤ hiM f r ((lineN q r r).getD i 0))
  | 0 => by unfold moM; constructor; · intro h; omega
            · rintro ⟨a, h, _⟩; omega
  | k + 1 => by
    have ih := moM_le (f := f) (q := q) (r := r) (n := n) k
    unfold moM
    constructor
    · intro h
      by_cases h2 : n ≤ hiM f r ((lineN q r r).getD k 0)
      · exact ⟨k, by omega, h2⟩
      · obtain ⟨i, i1, i2⟩ := ih.1 (by omega)
        exact ⟨i, by omega, i2⟩
    · rintro ⟨i, i1, i2⟩
      by_cases hik : i = k
      · subst hik; omega
      · have := ih.2 ⟨i, by omega, i2⟩; omega
theorem Goes.long {f q : Nat → Nat → Bool} {r n : Nat} (G : Goes f q r) : n + 1 ≤ lonQ f q r ↔ ∃ a b, Pth f r n a b := by
  unfold lonQ
  rw [moM_le]
  constructor
  · rintro ⟨i, i1, i2⟩
    obtain ⟨c, hc⟩ := (G.hi (G.lin.back i1).2).1 i2
    exact ⟨c, _, hc⟩
  · rintro ⟨a, b, h⟩
    refine ⟨placeN q r b, G.lin.lt h.lt.2, ?_⟩
    rw [G.lin.line h.lt.2]
    exact (G.hi h.lt.2).2 ⟨a, h⟩
/-! # from ahead -/
/-- the most rooms that begin at one -/
def loM (f : Nat → Nat → Bool) (r a : Nat) : Nat := hiM (fun x y => f y x) r a + 1
theorem Goes.lo {f q : Nat → Nat → Bool} {r a n : Nat} (G : Goes f q r) (ha : a < r) : n + 1 ≤ loM f r a ↔ ∃ b, Pth f r n a b := by
  unfold loM hiM
  rw [Nat.add_le_add_iff_right, upK_le ha]
  constructor
  · rintro ⟨_, c, hc⟩; exact ⟨c, hc.rev⟩
  · rintro ⟨b, hb⟩
    exact ⟨by have := G.lt hb; omega, b, hb.rev⟩
end Go.Proofs.Ytpgcpmfemcfoaaa

/-
  The longest rows of rooms: the program's. (Walks.)
-/
namespace Go.Proofs.Ytpgcpmfemcfoaaa
open Go.RowKit

end Go.Proofs.Ytpgcpmfemcfoaaa

/-
  The longest rows of rooms: the model's, and both answers. (Walks.)
-/
namespace Go.Proofs.Ytpgcpmfemcfoaaa
open Go.RowKit

/-! # numbers that grow round by round -/
structure BeA (G : Nat → Nat) (r t : Nat) (S : List Nat) : Prop where
  len : S.length = r
  up : ∀ a, a < r → S.getD a 0 ≤ G a
  lo : ∀ a, a < r → min t (G a) ≤ S.getD a 0
structure BeI (G : Nat → Nat) (M r t i m : Nat) (S : List Nat) : Prop where
  all : BeA G r t S
  few : m ≤ M
  hi : ∀ a, a < i → min (t + 1) (G a) ≤ S.getD a 0
  mo : ∀ a, a < i → S.getD a 0 ≤ m
structure BeJ (f : Nat → Nat → Bool) (G : Nat → Nat) (M r t i m j : Nat) (S : List Nat) : Prop where
  old : BeI G M r t i m S
  one : 1 ≤ S.getD i 0
  st : ∀ b, b < j → f i b = true → S.getD b 0 + 1 ≤ S.getD i 0
theorem BeI.start {G : Nat → Nat} {M r t m : Nat} {S : List Nat} (h : BeA G r t S) (hm : m ≤ M) : BeI G M r t 0 m S := ⟨h, hm, fun a ha => by omega, fun a ha => by omega⟩
theorem BeI.grow {G : Nat → Nat} {M r t i m : Nat} {S : List Nat} (h : BeI G M r t i m S) (hi : i < r) {v : Nat} (h1 : S.getD i 0 ≤ v) (h2 : v ≤ G i) : BeI G M r t i m (S.set i v) := by
  have hl := h.all.len
  have hs : ∀ a, (S.set i v).getD a 0 = if a = i then v else S.getD a 0 := fun a => getD_set S i a v (by omega)
  refine ⟨⟨by rw [List.length_set]; exact hl, fun a ha => ?_, fun a ha => ?_⟩, h.few, fun a ha => ?_, fun a ha => ?_⟩
  · rw [hs]; split
    · rename_i e; subst e; exact h2
    · exact h.all.up a ha
  · rw [hs]; split
    · rename_i e; subst e; have := h.all.lo a ha; omega
    · exact h.all.lo a ha
  · rw [hs, if_neg (by omega)]; exact h.hi a ha
  · rw [hs, if_neg (by omega)]; exact h.mo a ha
theorem BeI.first {f : Nat → Nat → Bool} {G : Nat → Nat} {M r t i m : Nat} {S : List Nat} (h : BeI G M r t i m S) (hi : i < r) (hG : 1 ≤ G i) : BeJ f G M r t i m 0 (S.set i (max (S.getD i 0) 1)) := by
  have hup := h.all.up i hi
  refine ⟨h.grow hi (by omega) (by omega), ?_, fun b hb => by omega⟩
  rw [getD_set _ _ _ _ (by rw [h.all.len]; exact hi), if_pos rfl]; omega
theorem BeJ.step {f : Nat → Nat → Bool} {G : Nat → Nat} {M r t i m j : Nat} {S : List Nat} (h : BeJ f G M r t i m j S) (hi : i < r) (hj : j < r) (hirr : ∀ b, f i b = true → b ≠ i) (hf : f i j = true) (hG : G j + 1 ≤ G i) :
    BeJ f G M r t i m (j + 1) (S.set i (max (S.getD i 0) (S.getD j 0 + 1))) := by
  have h1 := h.old.all.up i hi
  have h2 := h.old.all.up j hj
  have hs : ∀ a, (S.set i (max (S.getD i 0) (S.getD j 0 + 1))).getD a 0 = if a = i then max (S.getD i 0) (S.getD j 0 + 1) else S.getD a 0 := fun a => getD_set S i a _ (by rw [h.old.all.len]; exact hi)
  refine ⟨h.old.grow hi (by omega) (by omega), ?_, fun b hb hfb => ?_⟩
  · rw [hs, if_pos rfl]; have := h.one; omega
  · rw [hs, hs, if_pos rfl, if_neg (hirr b hfb)]
    by_cases hbj : b = j
    · subst hbj; omega
    · have := h.st b (by omega) hfb; omega
theorem BeI.round {G : Nat → Nat} {M r t m : Nat} {S : List Nat} (h : BeI G M r t r m S) : BeA G r (t + 1) S ∧ ∀ a, a < r → S.getD a 0 ≤ m := ⟨⟨h.all.len, h.all.up, h.hi⟩, h.mo⟩

end Go.Proofs.Ytpgcpmfemcfoaaa

/-
  The longest rows of rooms: both answers. (Walks.)
-/
namespace Go.Proofs.Ytpgcpmfemcfoaaa
open Go.RowKit

end Go.Proofs.Ytpgcpmfemcfoaaa
