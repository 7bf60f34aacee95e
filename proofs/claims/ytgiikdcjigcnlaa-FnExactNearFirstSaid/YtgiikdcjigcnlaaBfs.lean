
/-
  Rooms that are reached step by step from one, nearest ones first. (Plain mathematics.)
-/
import Derived.Test.YtgiikdcjigcnlaaMathCE

namespace Go.Proofs.Ytgiikdcjigcnlaa
open Go.RowKit

/-- who is reached (0: not; else one more than the steps), and in what order -/
structure Bf where
  D : Nat → Nat
  q : List Nat

def updD (D : Nat → Nat) (x v : Nat) : Nat → Nat := fun y => if y = x then v else D y
theorem updD_self (D : Nat → Nat) (x v : Nat) : updD D x v x = v := if_pos rfl
theorem updD_other (D : Nat → Nat) {x y : Nat} (v : Nat) (h : y ≠ x) : updD D x v y = D y := if_neg h
/-- one neighbour of a room is looked at -/
def tchB (y : Nat) (s : Bf) (x : Nat) : Bf := if s.D x = 0 then ⟨updD s.D x (s.D y + 1), s.q ++ [x]⟩ else s
def tchsB (y : Nat) (s : Bf) (xs : List Nat) : Bf := xs.foldl (tchB y) s
theorem tchsB_snoc (y : Nat) (s : Bf) (xs : List Nat) (x : Nat) : tchsB y s (xs ++ [x]) = tchB y (tchsB y s xs) x := by simp [tchsB]
/-- all neighbours of the room at a place of the row -/
def rndB (adj : Nat → List Nat) (s : Bf) (i : Nat) : Bf := if i < s.q.length then tchsB (s.q.getD i 0) s (adj (s.q.getD i 0)) else s
def bfsB (adj : Nat → List Nat) (a : Nat) : Nat → Bf
  | 0 => ⟨fun y => if y = a then 1 else 0, [a]⟩
  | i + 1 => rndB adj (bfsB adj a i) i

theorem tchB_new {y x : Nat} {s : Bf} (h : s.D x = 0) : tchB y s x = ⟨updD s.D x (s.D y + 1), s.q ++ [x]⟩ := if_pos h
theorem tchB_old {y x : Nat} {s : Bf} (h : s.D x ≠ 0) : tchB y s x = s := if_neg h

/-- what holds all the time -/
structure BfI (n : Nat) (s : Bf) : Prop where
  nodup : s.q.Nodup
  lt : ∀ x ∈ s.q, x < n
  pos : ∀ x ∈ s.q, 0 < s.D x
  mem : ∀ x, 0 < s.D x → x ∈ s.q
  le : ∀ x, s.D x ≤ s.q.length

theorem BfI.few {n : Nat} {s : Bf} (h : BfI n s) : s.q.length ≤ n := nodup_lt n s.q h.nodup h.lt
theorem BfI.one {n a : Nat} (ha : a < n) : BfI n ⟨fun y => if y = a then 1 else 0, [a]⟩ where
  nodup := by simp
  lt := fun x hx => by simp at hx; omega
  pos := fun x hx => by simp at hx; simp [hx]
  mem := fun x hx => by
    by_cases h : x = a
    · simp [h]
    · simp [h] at hx
  le := fun x => by
    by_cases h : x = a
    · simp [h]
    · simp [h]
theorem BfI.tch {n y x : Nat} {s : Bf} (h : BfI n s) (hx : x < n) : BfI n (tchB y s x) := by
  by_cases h0 : s.D x = 0
  · rw [tchB_new h0]
    have hxq : x ∉ s.q := fun hm => by have := h.pos x hm; omega
    refine ⟨?_, ?_, ?_, ?_, ?_⟩
    · rw [List.nodup_append]
      exact ⟨h.nodup, by simp, fun a ha b hb => by simp at hb; subst hb; exact fun he => hxq (he ▸ ha)⟩
    · intro z hz
      rcases List.mem_append.1 hz with hz | hz
      · exact h.lt z hz
      · simp at hz; omega
    · intro z hz
      show 0 < updD s.D x (s.D y + 1) z
      by_cases he : z = x
      · subst he; rw [updD_self]; omega
      · rw [updD_other _ _ he]
        rcases List.mem_append.1 hz with hz | hz
        · exact h.pos z hz
        · simp at hz; exact absurd hz he
    · intro z hz
      have hz' : 0 < updD s.D x (s.D y + 1) z := hz
      by_cases he : z = x
      · subst he; simp
      · rw [updD_other _ _ he] at hz'
        exact List.mem_append_left _ (h.mem z hz')
    · intro z
      show updD s.D x (s.D y + 1) z ≤ (s.q ++ [x]).length
      rw [List.length_append]
      by_cases he : z = x
      · subst he; rw [updD_self]; have := h.le y; simp; omega
      · rw [updD_other _ _ he]; have := h.le z; omega
  · rw [tchB_old h0]; exact h
theorem BfI.tchs {n y : Nat} : ∀ (xs : List Nat) {s : Bf}, BfI n s → (∀ x ∈ xs, x < n) → BfI n (tchsB y s xs)
  | [], _, h, _ => h
  | x :: xs, _, h, hx => BfI.tchs xs (h.tch (hx x (by simp))) (fun z hz => hx z (by simp [hz]))
theorem BfI.rnd {n i : Nat} {adj : Nat → List Nat} {s : Bf} (h : BfI n s) (ha : ∀ y, ∀ x ∈ adj y, x < n) : BfI n (rndB adj s i) := by
  unfold rndB
  split
  · exact h.tchs _ (ha _)
  · exact h
theorem bfsB_inv {n a : Nat} {adj : Nat → List Nat} (h : a < n) (ha : ∀ y, ∀ x ∈ adj y, x < n) : ∀ i, BfI n (bfsB adj a i)
  | 0 => BfI.one h
  | i + 1 => (bfsB_inv h ha i).rnd ha

/-- a room that is in the row stays where it is, and keeps its steps -/
structure BfG (s t : Bf) : Prop where
  q : ∃ r, t.q = s.q ++ r
  D : ∀ x, 0 < s.D x → t.D x = s.D x
theorem BfG.refl (s : Bf) : BfG s s := ⟨⟨[], by simp⟩, fun _ _ => rfl⟩
theorem BfG.trans {s t u : Bf} (h : BfG s t) (k : BfG t u) : BfG s u := by
  obtain ⟨r, hr⟩ := h.q
  obtain ⟨r', hr'⟩ := k.q
  refine ⟨⟨r ++ r', by rw [hr', hr, List.append_assoc]⟩, fun x hx => ?_⟩
  have h1 := h.D x hx
  rw [k.D x (by omega), h1]
theorem BfG.tch (y x : Nat) (s : Bf) : BfG s (tchB y s x) := by
  by_cases h0 : s.D x = 0
  · rw [tchB_new h0]
    exact ⟨⟨[x], rfl⟩, fun z hz => updD_other _ _ (fun he => by subst he; omega)⟩
  · rw [tchB_old h0]; exact BfG.refl s
theorem BfG.tchs (y : Nat) : ∀ (xs : List Nat) (s : Bf), BfG s (tchsB y s xs)
  | [], s => BfG.refl s
  | x :: xs, s => (BfG.tch y x s).trans (BfG.tchs y xs (tchB y s x))
theorem BfG.rnd (adj : Nat → List Nat) (s : Bf) (i : Nat) : BfG s (rndB adj s i) := by
  unfold rndB
  split
  · exact BfG.tchs _ _ _
  · exact BfG.refl s
theorem BfG.len {s t : Bf} (h : BfG s t) : s.q.length ≤ t.q.length := by
  obtain ⟨r, hr⟩ := h.q
  rw [hr, List.length_append]; omega
theorem BfG.at {s t : Bf} (h : BfG s t) {i : Nat} (hi : i < s.q.length) : t.q.getD i 0 = s.q.getD i 0 := by
  obtain ⟨r, hr⟩ := h.q
  rw [hr, List.getD_eq_getElem?_getD, List.getElem?_append_left hi, ← List.getD_eq_getElem?_getD]

/-- when all of the row is looked at, nothing more comes -/
theorem bfsB_done {adj : Nat → List Nat} {a i : Nat} (h : (bfsB adj a i).q.length ≤ i) : ∀ k, bfsB adj a (i + k) = bfsB adj a i
  | 0 => rfl
  | k + 1 => by
    have ih := bfsB_done h k
    show rndB adj (bfsB adj a (i + k)) (i + k) = _
    rw [ih]; unfold rndB; rw [if_neg (by omega)]
theorem bfsB_end {n a i : Nat} {adj : Nat → List Nat} (hn : i ≤ n) (h : (bfsB adj a i).q.length ≤ i) : bfsB adj a n = bfsB adj a i := by
  obtain ⟨k, rfl⟩ : ∃ k, n = i + k := ⟨n - i, by omega⟩
  exact bfsB_done h k

/-- the steps from one room to another, and how many there are at most -/
def stepsB (adj : Nat → List Nat) (n a b : Nat) : Nat := (bfsB adj a n).D b - 1

/-- whether all neighbours of rooms that were looked at are reached -/
theorem tchsB_all (y : Nat) : ∀ (xs : List Nat) (s : Bf), 0 < s.D y → ∀ x ∈ xs, 0 < (tchsB y s xs).D x
  | [], _, _, x, hx => by cases hx
  | z :: xs, s, hy, x, hx => by
    have hg := BfG.tch y z s
    have hy' : 0 < (tchB y s z).D y := by rw [hg.D y hy]; exact hy
    rcases List.mem_cons.1 hx with rfl | hx
    · have hz : 0 < (tchB y s x).D x := by
        by_cases h0 : s.D x = 0
        · rw [tchB_new h0]; show 0 < updD _ _ _ x; rw [updD_self]; omega
        · rw [tchB_old h0]; omega
      show 0 < (tchsB y (tchB y s x) xs).D x
      rw [(BfG.tchs y xs _).D x hz]; exact hz
    · exact tchsB_all y xs _ hy' x hx
theorem bfsB_seen {n a : Nat} {adj : Nat → List Nat} (h : a < n) (ha : ∀ y, ∀ x ∈ adj y, x < n) : ∀ i k, k < i → k < (bfsB adj a i).q.length → ∀ x ∈ adj ((bfsB adj a i).q.getD k 0), 0 < (bfsB adj a i).D x
  | 0, k, hk, _, _, _ => absurd hk (Nat.not_lt_zero _)
  | i + 1, k, hk, hl, x, hx => by
    have hI := bfsB_inv h ha i
    have hg : BfG (bfsB adj a i) (bfsB adj a (i + 1)) := BfG.rnd adj (bfsB adj a i) i
    by_cases hki : k < (bfsB adj a i).q.length
    · rw [hg.at hki] at hx
      rcases Nat.lt_or_ge k i with hk' | hk'
      · have := bfsB_seen h ha i k hk' hki x hx
        rw [hg.D x this]; exact this
      · obtain rfl : k = i := by omega
        have e : bfsB adj a (k + 1) = tchsB ((bfsB adj a k).q.getD k 0) (bfsB adj a k) (adj ((bfsB adj a k).q.getD k 0)) := by
          show rndB adj (bfsB adj a k) k = _
          unfold rndB; rw [if_pos hki]
        rw [e]
        refine tchsB_all _ _ _ (hI.pos _ ?_) x hx
        rw [List.getD_eq_getElem?_getD, List.getElem?_eq_getElem hki, Option.getD_some]
        exact List.getElem_mem _
    · have e : bfsB adj a (i + 1) = bfsB adj a i := by
        show rndB adj (bfsB adj a i) i = _
        unfold rndB; rw [if_neg (by omega)]
      rw [e] at hl
      exact absurd hl hki
/-- the rooms that are reached in the end: what no neighbour leads out of -/
theorem bfsB_closed {n a : Nat} {adj : Nat → List Nat} (h : a < n) (ha : ∀ y, ∀ x ∈ adj y, x < n) {y x : Nat} (hy : 0 < (bfsB adj a n).D y) (hx : x ∈ adj y) : 0 < (bfsB adj a n).D x := by
  have hI := bfsB_inv h ha n
  obtain ⟨k, hk, e⟩ := List.mem_iff_getElem.1 (hI.mem y hy)
  have hf := hI.few
  refine bfsB_seen h ha n k (by omega) hk x ?_
  rw [List.getD_eq_getElem?_getD, List.getElem?_eq_getElem hk, Option.getD_some, e]; exact hx
theorem bfsB_start {adj : Nat → List Nat} (a : Nat) : ∀ i, (bfsB adj a i).D a = 1
  | 0 => if_pos rfl
  | i + 1 => by
    have h := bfsB_start (adj := adj) a i
    have := (BfG.rnd adj (bfsB adj a i) i).D a (by omega)
    exact this.trans h

/-- none but the room from which all begin is no step away -/
theorem tchB_one {a y x : Nat} {s : Bf} (h : ∀ z, s.D z = 1 → z = a) (hy : 0 < s.D y) : ∀ z, (tchB y s x).D z = 1 → z = a := fun z hz => by
  by_cases h0 : s.D x = 0
  · rw [tchB_new h0] at hz
    have hz' : updD s.D x (s.D y + 1) z = 1 := hz
    by_cases he : z = x
    · subst he; rw [updD_self] at hz'; omega
    · rw [updD_other _ _ he] at hz'; exact h z hz'
  · rw [tchB_old h0] at hz; exact h z hz
theorem tchsB_one {a y : Nat} : ∀ (xs : List Nat) {s : Bf}, (∀ z, s.D z = 1 → z = a) → 0 < s.D y → ∀ z, (tchsB y s xs).D z = 1 → z = a
  | [], _, h, _ => h
  | x :: xs, s, h, hy => tchsB_one xs (tchB_one h hy) (by rw [(BfG.tch y x s).D y hy]; exact hy)
theorem bfsB_one {n a : Nat} {adj : Nat → List Nat} (h : a < n) (ha : ∀ y, ∀ x ∈ adj y, x < n) : ∀ i z, (bfsB adj a i).D z = 1 → z = a
  | 0, z, hz => by
    by_cases he : z = a
    · exact he
    · have : (if z = a then 1 else 0) = 1 := hz
      rw [if_neg he] at this; omega
  | i + 1, z, hz => by
    have hI := bfsB_inv h ha i
    have hz' : (rndB adj (bfsB adj a i) i).D z = 1 := hz
    unfold rndB at hz'
    split at hz'
    · rename_i hi
      refine tchsB_one _ (bfsB_one h ha i) (hI.pos _ ?_) z hz'
      rw [List.getD_eq_getElem?_getD, List.getElem?_eq_getElem hi, Option.getD_some]
      exact List.getElem_mem _
    · exact bfsB_one h ha i z hz'
end Go.Proofs.Ytgiikdcjigcnlaa
