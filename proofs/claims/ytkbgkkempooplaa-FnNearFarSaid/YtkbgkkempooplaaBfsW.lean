
/-
  Merged texts: Bfs BfsM BfsS Win BfsI BfsW.
-/
import Derived.Test.YtkbgkkempooplaaMathCE
import Derived.Test.YtkbgkkempooplaaNearb
import Derived.Test.YtkbgkkempooplaaRow
import Derived.Test.YtkbgkkempooplaaNine
import Derived.BigRegion
import Derived.Deep.LoopGhost
import Derived.LaidEqlPtr
import Derived.Deep.Cut
import Derived.Lib.Builder

/-
  Rooms that are reached step by step from one, nearest ones first. (Plain mathematics.)
-/
namespace Go.Proofs.Ytkbgkkempooplaa
open Go.RowKit

/-- who is reached (0: not; else one more than the steps), and in what order -/
structure Bf where
  D : Nat → Nat
  q : List Nat

def updD (D : Nat → Nat) (x v : Nat) : Nat → Nat := fun y => if y = x then v else D y
theorem updD_self (D : Nat → Nat) (x v : Nat) : updD D x v x = v := if_pos rfl
theorem updD_other (D : Nat → Nat) {x y : Nat} (v : Nat) (h : y ≠ x) : updD D x v y = D y := if_neg h
/-- one neighbour of a room is looked at -/
def tchB (y : Nat) (s : Bf) (x : Nat) : Bf := if s.D x = 0 then ⟨updD s.D x (s.D y + 1), s.q ++ [x]⟩ else s
def tchsB (y : Nat) (s : Bf) (xs : List Nat) : Bf := xs.foldl (tchB y) s
theorem tchsB_snoc (y : Nat) (s : Bf) (xs : List Nat) (x : Nat) : tchsB y s (xs ++ [x]) = tchB y (tchsB y s xs) x := by simp [tchsB]
/-- all neighbours of the room at a place of the row -/
def rndB (adj : Nat → List Nat) (s : Bf) (i : Nat) : Bf := if i < s.q.length then tchsB (s.q.getD i 0) s (adj (s.q.getD i 0)) else s
def bfsB (adj : Nat → List Nat) (a : Nat) : Nat → Bf
  | 0 => ⟨fun y => if y = a then 1 else 0, [a]⟩
  | i + 1 => rndB adj (bfsB adj a i) i

theorem tchB_new {y x : Nat} {s : Bf} (h : s.D x = 0) : tchB y s x = ⟨updD s.D x (s.D y + 1), s.q ++ [x]⟩ := if_pos h
theorem tchB_old {y x : Nat} {s : Bf} (h : s.D x ≠ 0) : tchB y s x = s := if_neg h

/-- what holds all the time -/
structure BfI (n : Nat) (s : Bf) : Prop where
  nodup : s.q.Nodup
  lt : ∀ x ∈ s.q, x < n
  pos : ∀ x ∈ s.q, 0 < s.D x
  mem : ∀ x, 0 < s.D x → x ∈ s.q
  le : ∀ x, s.D x ≤ s.q.length

theorem BfI.few {n : Nat} {s : Bf} (h : BfI n s) : s.q.length ≤ n := nodup_lt n s.q h.nodup h.lt
theorem BfI.one {n a : Nat} (ha : a < n) : BfI n ⟨fun y => if y = a then 1 else 0, [a]⟩ where
  nodup := by simp
  lt := fun x hx => by simp at hx; omega
  pos := fun x hx => by simp at hx; simp [hx]
  mem := fun x hx => by
    by_cases h : x = a
    · simp [h]
    · simp [h] at hx
  le := fun x => by
    by_cases h : x = a
    · simp [h]
    · simp [h]
theorem BfI.tch {n y x : Nat} {s : Bf} (h : BfI n s) (hx : x < n) : BfI n (tchB y s x) := by
  by_cases h0 : s.D x = 0
  · rw [tchB_new h0]
    have hxq : x ∉ s.q := fun hm => by have := h.pos x hm; omega
    refine ⟨?_, ?_, ?_, ?_, ?_⟩
    · rw [List.nodup_append]
      exact ⟨h.nodup, by simp, fun a ha b hb => by simp at hb; subst hb; exact fun he => hxq (he ▸ ha)⟩
    · intro z hz
      rcases List.mem_append.1 hz with hz | hz
      · exact h.lt z hz
      · simp at hz; omega
    · intro z hz
      show 0 < updD s.D x (s.D y + 1) z
      by_cases he : z = x
      · subst he; rw [updD_self]; omega
      · rw [updD_other _ _ he]
        rcases List.mem_append.1 hz with hz | hz
        · exact h.pos z hz
        · simp at hz; exact absurd hz he
    · intro z hz
      have hz' : 0 < updD s.D x (s.D y + 1) z := hz
      by_cases he : z = x
      · subst he; simp
      · rw [updD_other _ _ he] at hz'
        exact List.mem_append_left _ (h.mem z hz')
    · intro z
      show updD s.D x (s.D y + 1) z ≤ (s.q ++ [x]).length
      rw [List.length_append]
      by_cases he : z = x
      · subst he; rw [updD_self]; have := h.le y; simp; omega
      · rw [updD_other _ _ he]; have := h.le z; omega
  · rw [tchB_old h0]; exact h
theorem BfI.tchs {n y : Nat} : ∀ (xs : List Nat) {s : Bf}, BfI n s → (∀ x ∈ xs, x < n) → BfI n (tchsB y s xs)
  | [], _, h, _ => h
  | x :: xs, _, h, hx => BfI.tchs xs (h.tch (hx x (by simp))) (fun z hz => hx z (by simp [hz]))
theorem BfI.rnd {n i : Nat} {adj : Nat → List Nat} {s : Bf} (h : BfI n s) (ha : ∀ y, ∀ x ∈ adj y, x < n) : BfI n (rndB adj s i) := by
  unfold rndB
  split
  · exact h.tchs _ (ha _)
  · exact h
theorem bfsB_inv {n a : Nat} {adj : Nat → List Nat} (h : a < n) (ha : ∀ y, ∀ x ∈ adj y, x < n) : ∀ i, BfI n (bfsB adj a i)
  | 0 => BfI.one h
  | i + 1 => (bfsB_inv h ha i).rnd ha

/-- a room that is in the row stays where it is, and keeps its steps -/
structure BfG (s t : Bf) : Prop where
  q : ∃ r, t.q = s.q ++ r
  D : ∀ x, 0 < s.D x → t.D x = s.D x
theorem BfG.refl (s : Bf) : BfG s s := ⟨⟨[], by simp⟩, fun _ _ => rfl⟩
theorem BfG.trans {s t u : Bf} (h : BfG s t) (k : BfG t u) : BfG s u := by
  obtain ⟨r, hr⟩ := h.q
  obtain ⟨r', hr'⟩ := k.q
  refine ⟨⟨r ++ r', by rw [hr', hr, List.append_assoc]⟩, fun x hx => ?_⟩
  have h1 := h.D x hx
  rw [k.D x (by omega), h1]
theorem BfG.tch (y x : Nat) (s : Bf) : BfG s (tchB y s x) := by
  by_cases h0 : s.D x = 0
  · rw [tchB_new h0]
    exact ⟨⟨[x], rfl⟩, fun z hz => updD_other _ _ (fun he => by subst he; omega)⟩
  · rw [tchB_old h0]; exact BfG.refl s
theorem BfG.tchs (y : Nat) : ∀ (xs : List Nat) (s : Bf), BfG s (tchsB y s xs)
  | [], s => BfG.refl s
  | x :: xs, s => (BfG.tch y x s).trans (BfG.tchs y xs (tchB y s x))
theorem BfG.rnd (adj : Nat → List Nat) (s : Bf) (i : Nat) : BfG s (rndB adj s i) := by
  unfold rndB
  split
  · exact BfG.tchs _ _ _
  · exact BfG.refl s
theorem BfG.len {s t : Bf} (h : BfG s t) : s.q.length ≤ t.q.length := by
  obtain ⟨r, hr⟩ := h.q
  rw [hr, List.length_append]; omega
theorem BfG.at {s t : Bf} (h : BfG s t) {i : Nat} (hi : i < s.q.length) : t.q.getD i 0 = s.q.getD i 0 := by
  obtain ⟨r, hr⟩ := h.q
  rw [hr, List.getD_eq_getElem?_getD, List.getElem?_append_left hi, ← List.getD_eq_getElem?_getD]

/-- when all of the row is looked at, nothing more comes -/
theorem bfsB_done {adj : Nat → List Nat} {a i : Nat} (h : (bfsB adj a i).q.length ≤ i) : ∀ k, bfsB adj a (i + k) = bfsB adj a i
  | 0 => rfl
  | k + 1 => by
    have ih := bfsB_done h k
    show rndB adj (bfsB adj a (i + k)) (i + k) = _
    rw [ih]; unfold rndB; rw [if_neg (by omega)]
theorem bfsB_end {n a i : Nat} {adj : Nat → List Nat} (hn : i ≤ n) (h : (bfsB adj a i).q.length ≤ i) : bfsB adj a n = bfsB adj a i := by
  obtain ⟨k, rfl⟩ : ∃ k, n = i + k := ⟨n - i, by omega⟩
  exact bfsB_done h k

/-- the steps from one room to another, and how many there are at most -/
def stepsB (adj : Nat → List Nat) (n a b : Nat) : Nat := (bfsB adj a n).D b - 1

/-- whether all neighbours of rooms that were looked at are reached -/
theorem tchsB_all (y : Nat) : ∀ (xs : List Nat) (s : Bf), 0 < s.D y → ∀ x ∈ xs, 0 < (tchsB y s xs).D x
  | [], _, _, x, hx => by cases hx
  | z :: xs, s, hy, x, hx => by
    have hg := BfG.tch y z s
    have hy' : 0 < (tchB y s z).D y := by rw [hg.D y hy]; exact hy
    rcases List.mem_cons.1 hx with rfl | hx
    · have hz : 0 < (tchB y s x).D x := by
        by_cases h0 : s.D x = 0
        · rw [tchB_new h0]; show 0 < updD _ _ _ x; rw [updD_self]; omega
        · rw [tchB_old h0]; omega
      show 0 < (tchsB y (tchB y s x) xs).D x
      rw [(BfG.tchs y xs _).D x hz]; exact hz
    · exact tchsB_all y xs _ hy' x hx
theorem bfsB_seen {n a : Nat} {adj : Nat → List Nat} (h : a < n) (ha : ∀ y, ∀ x ∈ adj y, x < n) : ∀ i k, k < i → k < (bfsB adj a i).q.length → ∀ x ∈ adj ((bfsB adj a i).q.getD k 0), 0 < (bfsB adj a i).D x
  | 0, k, hk, _, _, _ => absurd hk (Nat.not_lt_zero _)
  | i + 1, k, hk, hl, x, hx => by
    have hI := bfsB_inv h ha i
    have hg : BfG (bfsB adj a i) (bfsB adj a (i + 1)) := BfG.rnd adj (bfsB adj a i) i
    by_cases hki : k < (bfsB adj a i).q.length
    · rw [hg.at hki] at hx
      rcases Nat.lt_or_ge k i with hk' | hk'
      · have := bfsB_seen h ha i k hk' hki x hx
        rw [hg.D x this]; exact this
      · obtain rfl : k = i := by omega
        have e : bfsB adj a (k + 1) = tchsB ((bfsB adj a k).q.getD k 0) (bfsB adj a k) (adj ((bfsB adj a k).q.getD k 0)) := by
          show rndB adj (bfsB adj a k) k = _
          unfold rndB; rw [if_pos hki]
        rw [e]
        refine tchsB_all _ _ _ (hI.pos _ ?_) x hx
        rw [List.getD_eq_getElem?_getD, List.getElem?_eq_getElem hki, Option.getD_some]
        exact List.getElem_mem _
    · have e : bfsB adj a (i + 1) = bfsB adj a i := by
        show rndB adj (bfsB adj a i) i = _
        unfold rndB; rw [if_neg (by omega)]
      rw [e] at hl
      exact absurd hl hki
/-- the rooms that are reached in the end: what no neighbour leads out of -/
theorem bfsB_closed {n a : Nat} {adj : Nat → List Nat} (h : a < n) (ha : ∀ y, ∀ x ∈ adj y, x < n) {y x : Nat} (hy : 0 < (bfsB adj a n).D y) (hx : x ∈ adj y) : 0 < (bfsB adj a n).D x := by
  have hI := bfsB_inv h ha n
  obtain ⟨k, hk, e⟩ := List.mem_iff_getElem.1 (hI.mem y hy)
  have hf := hI.few
  refine bfsB_seen h ha n k (by omega) hk x ?_
  rw [List.getD_eq_getElem?_getD, List.getElem?_eq_getElem hk, Option.getD_some, e]; exact hx
theorem bfsB_start {adj : Nat → List Nat} (a : Nat) : ∀ i, (bfsB adj a i).D a = 1
  | 0 => if_pos rfl
  | i + 1 => by
    have h := bfsB_start (adj := adj) a i
    have := (BfG.rnd adj (bfsB adj a i) i).D a (by omega)
    exact this.trans h

/-- none but the room from which all begin is no step away -/
theorem tchB_one {a y x : Nat} {s : Bf} (h : ∀ z, s.D z = 1 → z = a) (hy : 0 < s.D y) : ∀ z, (tchB y s x).D z = 1 → z = a := fun z hz => by
  by_cases h0 : s.D x = 0
  · rw [tchB_new h0] at hz
    have hz' : updD s.D x (s.D y + 1) z = 1 := hz
    by_cases he : z = x
    · subst he; rw [updD_self] at hz'; omega
    · rw [updD_other _ _ he] at hz'; exact h z hz'
  · rw [tchB_old h0] at hz; exact h z hz
theorem tchsB_one {a y : Nat} : ∀ (xs : List Nat) {s : Bf}, (∀ z, s.D z = 1 → z = a) → 0 < s.D y → ∀ z, (tchsB y s xs).D z = 1 → z = a
  | [], _, h, _ => h
  | x :: xs, s, h, hy => tchsB_one xs (tchB_one h hy) (by rw [(BfG.tch y x s).D y hy]; exact hy)
theorem bfsB_one {n a : Nat} {adj : Nat → List Nat} (h : a < n) (ha : ∀ y, ∀ x ∈ adj y, x < n) : ∀ i z, (bfsB adj a i).D z = 1 → z = a
  | 0, z, hz => by
    by_cases he : z = a
    · exact he
    · have : (if z = a then 1 else 0) = 1 := hz
      rw [if_neg he] at this; omega
  | i + 1, z, hz => by
    have hI := bfsB_inv h ha i
    have hz' : (rndB adj (bfsB adj a i) i).D z = 1 := hz
    unfold rndB at hz'
    split at hz'
    · rename_i hi
      refine tchsB_one _ (bfsB_one h ha i) (hI.pos _ ?_) z hz'
      rw [List.getD_eq_getElem?_getD, List.getElem?_eq_getElem hi, Option.getD_some]
      exact List.getElem_mem _
    · exact bfsB_one h ha i z hz'
end Go.Proofs.Ytkbgkkempooplaa

/-
  Rooms that are reached step by step: the steps are the fewest. (Plain mathematics.)
-/
namespace Go.Proofs.Ytkbgkkempooplaa
open Go.RowKit

/-- rooms stand in the row by their steps; and none is more than one step farther than the one that is looked at -/
structure BfM (s : Bf) (h : Nat) : Prop where
  asc : ∀ i j, i ≤ j → j < s.q.length → s.D (s.q.getD i 0) ≤ s.D (s.q.getD j 0)
  one : h < s.q.length → ∀ j, j < s.q.length → s.D (s.q.getD j 0) ≤ s.D (s.q.getD h 0) + 1

theorem getD_memN {L : List Nat} {i : Nat} (h : i < L.length) : L.getD i 0 ∈ L := by
  rw [List.getD_eq_getElem?_getD, List.getElem?_eq_getElem h, Option.getD_some]; exact List.getElem_mem _
theorem gdSnocL {C : List Nat} {c a : Nat} (h : a < C.length) : (C ++ [c]).getD a 0 = C.getD a 0 := by
  rw [List.getD_eq_getElem?_getD, List.getElem?_append_left h, ← List.getD_eq_getElem?_getD]
theorem gdSnocR (C : List Nat) (c : Nat) : (C ++ [c]).getD C.length 0 = c := by
  rw [List.getD_eq_getElem?_getD, List.getElem?_append_right (Nat.le_refl _), Nat.sub_self]; rfl
theorem BfM.tch {n h x : Nat} {s : Bf} (hm : BfM s h) (hI : BfI n s) (hh : h < s.q.length) : BfM (tchB (s.q.getD h 0) s x) h := by
  by_cases h0 : s.D x = 0
  · have hxq : ∀ i, i < s.q.length → s.q.getD i 0 ≠ x := fun i hi he => by
      have := hI.pos _ (getD_memN hi); rw [he] at this; omega
    rw [tchB_new h0]
    have hl : (s.q ++ [x]).length = s.q.length + 1 := by simp
    have gL : ∀ i, i < s.q.length → updD s.D x (s.D (s.q.getD h 0) + 1) ((s.q ++ [x]).getD i 0) = s.D (s.q.getD i 0) := fun i hi => by
      rw [gdSnocL hi, updD_other _ _ (hxq i hi)]
    have gR : updD s.D x (s.D (s.q.getD h 0) + 1) ((s.q ++ [x]).getD s.q.length 0) = s.D (s.q.getD h 0) + 1 := by
      rw [gdSnocR]
      exact updD_self _ _ _
    refine ⟨fun i j hij hj => ?_, fun _ j hj => ?_⟩
    · show updD _ _ _ ((s.q ++ [x]).getD i 0) ≤ updD _ _ _ ((s.q ++ [x]).getD j 0)
      have hj' : j < s.q.length + 1 := by rw [← hl]; exact hj
      rcases Nat.lt_or_ge j s.q.length with h' | h'
      · rw [gL i (by omega), gL j h']; exact hm.asc i j hij h'
      · obtain rfl : j = s.q.length := by omega
        rw [gR]
        rcases Nat.lt_or_ge i s.q.length with h2 | h2
        · rw [gL i h2]; exact hm.one hh i h2
        · obtain rfl : i = s.q.length := by omega
          rw [gR]; exact Nat.le_refl _
    · show updD _ _ _ ((s.q ++ [x]).getD j 0) ≤ updD _ _ _ ((s.q ++ [x]).getD h 0) + 1
      rw [gL h hh]
      have hj' : j < s.q.length + 1 := by rw [← hl]; exact hj
      rcases Nat.lt_or_ge j s.q.length with h' | h'
      · rw [gL j h']; exact hm.one hh j h'
      · obtain rfl : j = s.q.length := by omega
        rw [gR]; exact Nat.le_refl _
  · rw [tchB_old h0]; exact hm
theorem BfM.tchs {n h y : Nat} : ∀ (xs : List Nat) {s : Bf}, BfM s h → BfI n s → h < s.q.length → s.q.getD h 0 = y → (∀ x ∈ xs, x < n) → BfM (tchsB y s xs) h
  | [], _, hm, _, _, _, _ => hm
  | x :: xs, s, hm, hI, hh, hy, hx => by
    have hg := BfG.tch y x s
    subst hy
    exact BfM.tchs xs (hm.tch hI hh) (hI.tch (hx x (by simp))) (Nat.lt_of_lt_of_le hh hg.len) (hg.at hh) (fun z hz => hx z (by simp [hz]))
theorem BfM.next {s : Bf} {h : Nat} (hm : BfM s h) : BfM s (h + 1) :=
  ⟨hm.asc, fun hh j hj => by have h1 := hm.one (by omega) j hj; have h2 := hm.asc h (h + 1) (by omega) hh; omega⟩
theorem bfsB_mono {n a : Nat} {adj : Nat → List Nat} (h : a < n) (ha : ∀ y, ∀ x ∈ adj y, x < n) : ∀ i, BfM (bfsB adj a i) i
  | 0 => ⟨fun i j hij hj => by
      have hj' : j < 1 := hj
      obtain rfl : i = j := by omega
      exact Nat.le_refl _, fun _ j hj => by
      have hj' : j < 1 := hj
      obtain rfl : j = 0 := by omega
      omega⟩
  | i + 1 => by
    have hI := bfsB_inv h ha i
    show BfM (rndB adj (bfsB adj a i) i) (i + 1)
    unfold rndB
    split
    · rename_i hi
      exact ((bfsB_mono h ha i).tchs _ hI hi rfl (ha _)).next
    · exact (bfsB_mono h ha i).next

/-- a neighbour is at most one step farther -/
theorem bfsB_near {n a : Nat} {adj : Nat → List Nat} (h : a < n) (ha : ∀ y, ∀ x ∈ adj y, x < n) : ∀ i k, k < i → k < (bfsB adj a i).q.length → ∀ x ∈ adj ((bfsB adj a i).q.getD k 0), (bfsB adj a i).D x ≤ (bfsB adj a i).D ((bfsB adj a i).q.getD k 0) + 1
  | 0, k, hk, _, _, _ => absurd hk (Nat.not_lt_zero _)
  | i + 1, k, hk, hl, x, hx => by
    have hI := bfsB_inv h ha i
    have hI' := bfsB_inv h ha (i + 1)
    have hg : BfG (bfsB adj a i) (bfsB adj a (i + 1)) := BfG.rnd adj (bfsB adj a i) i
    by_cases hki : k < (bfsB adj a i).q.length
    · have hpk := hI.pos _ (getD_memN hki)
      rcases Nat.lt_or_ge k i with hk' | hk'
      · rw [hg.at hki] at hx ⊢
        have hsn := bfsB_seen h ha i k hk' hki x hx
        have := bfsB_near h ha i k hk' hki x hx
        rw [hg.D x hsn, hg.D _ hpk]; exact this
      · obtain rfl : k = i := by omega
        have hsn := bfsB_seen h ha (k + 1) k (by omega) hl x hx
        obtain ⟨j, hj, ej⟩ := List.mem_iff_getElem.1 (hI'.mem x hsn)
        have hmm : BfM (bfsB adj a (k + 1)) k := by
          show BfM (rndB adj (bfsB adj a k) k) k
          unfold rndB; rw [if_pos hki]
          exact (bfsB_mono h ha k).tchs _ hI hki rfl (ha _)
        have := hmm.one hl j hj
        rw [List.getD_eq_getElem?_getD, List.getElem?_eq_getElem hj, Option.getD_some, ej] at this
        exact this
    · have e : bfsB adj a (i + 1) = bfsB adj a i := by
        show rndB adj (bfsB adj a i) i = _
        unfold rndB; rw [if_neg (by omega)]
      rw [e] at hl
      exact absurd hl hki
theorem bfsB_step {n a : Nat} {adj : Nat → List Nat} (h : a < n) (ha : ∀ y, ∀ x ∈ adj y, x < n) {y x : Nat} (hy : 0 < (bfsB adj a n).D y) (hx : x ∈ adj y) : (bfsB adj a n).D x ≤ (bfsB adj a n).D y + 1 := by
  have hI := bfsB_inv h ha n
  obtain ⟨k, hk, e⟩ := List.mem_iff_getElem.1 (hI.mem y hy)
  have hf := hI.few
  have hgd : (bfsB adj a n).q.getD k 0 = y := by rw [List.getD_eq_getElem?_getD, List.getElem?_eq_getElem hk, Option.getD_some, e]
  have := bfsB_near h ha n k (by omega) hk x (by rw [hgd]; exact hx)
  rw [hgd] at this; exact this

/-- whoever is reached, but the first one, is a neighbour of one a step nearer -/
def BfP (adj : Nat → List Nat) (s : Bf) : Prop := ∀ x, 1 < s.D x → ∃ y, 0 < s.D y ∧ s.D y + 1 = s.D x ∧ x ∈ adj y
theorem BfP.tch {adj : Nat → List Nat} {s : Bf} {y x : Nat} (hp : BfP adj s) (hy : 0 < s.D y) (hx : x ∈ adj y) : BfP adj (tchB y s x) := by
  by_cases h0 : s.D x = 0
  · rw [tchB_new h0]
    intro z hz
    have hz' : 1 < updD s.D x (s.D y + 1) z := hz
    show ∃ u, 0 < updD s.D x (s.D y + 1) u ∧ updD s.D x (s.D y + 1) u + 1 = updD s.D x (s.D y + 1) z ∧ z ∈ adj u
    by_cases he : z = x
    · subst he
      refine ⟨y, ?_, ?_, hx⟩
      · rw [updD_other _ _ (fun e => by subst e; omega)]; exact hy
      · rw [updD_self, updD_other _ _ (fun e => by subst e; omega)]
    · rw [updD_other _ _ he] at hz' ⊢
      obtain ⟨u, h1, h2, h3⟩ := hp z hz'
      have hux : u ≠ x := fun e => by subst e; omega
      exact ⟨u, by rw [updD_other _ _ hux]; exact h1, by rw [updD_other _ _ hux]; exact h2, h3⟩
  · rw [tchB_old h0]; exact hp
theorem BfP.tchs {adj : Nat → List Nat} {y : Nat} : ∀ (xs : List Nat) {s : Bf}, BfP adj s → 0 < s.D y → (∀ x ∈ xs, x ∈ adj y) → BfP adj (tchsB y s xs)
  | [], _, hp, _, _ => hp
  | x :: xs, s, hp, hy, hx => BfP.tchs xs (hp.tch hy (hx x (by simp))) (by rw [(BfG.tch y x s).D y hy]; exact hy) (fun z hz => hx z (by simp [hz]))
theorem bfsB_back {n a : Nat} {adj : Nat → List Nat} (h : a < n) (ha : ∀ y, ∀ x ∈ adj y, x < n) : ∀ i, BfP adj (bfsB adj a i)
  | 0 => fun x hx => by
    have hx' : 1 < (if x = a then 1 else 0) := hx
    split at hx' <;> omega
  | i + 1 => by
    have hI := bfsB_inv h ha i
    show BfP adj (rndB adj (bfsB adj a i) i)
    unfold rndB
    split
    · rename_i hi
      exact (bfsB_back h ha i).tchs _ (hI.pos _ (getD_memN hi)) (fun x hx => hx)
    · exact bfsB_back h ha i

/-- a way of so many steps -/
def Wk (adj : Nat → List Nat) : Nat → Nat → Nat → Prop
  | 0, a, b => a = b
  | k + 1, a, b => ∃ c, Wk adj k a c ∧ b ∈ adj c
theorem Wk.cons {adj : Nat → List Nat} {a b : Nat} (h : b ∈ adj a) : ∀ {k c : Nat}, Wk adj k b c → Wk adj (k + 1) a c
  | 0, c, hw => by
    have : b = c := hw
    subst this; exact ⟨a, rfl, h⟩
  | k + 1, c, hw => by
    obtain ⟨d, h1, h2⟩ := hw
    exact ⟨d, Wk.cons h h1, h2⟩
theorem Wk.flip {adj : Nat → List Nat} {n : Nat} (hs : ∀ a b, a < n → b ∈ adj a → a ∈ adj b) (ha : ∀ y, ∀ x ∈ adj y, x < n) : ∀ {k a b : Nat}, a < n → Wk adj k a b → Wk adj k b a
  | 0, a, b, _, hw => (show a = b from hw).symm
  | k + 1, a, b, h, hw => by
    obtain ⟨c, h1, h2⟩ := hw
    have hc : c < n := by
      cases k with
      | zero => have : a = c := h1; omega
      | succ k => obtain ⟨d, _, h3⟩ := h1; exact ha d c h3
    exact Wk.cons (hs c b hc h2) (Wk.flip hs ha h h1)
theorem Wk.dist {adj : Nat → List Nat} {n a : Nat} (h : a < n) (ha : ∀ y, ∀ x ∈ adj y, x < n) : ∀ {k b : Nat}, Wk adj k a b → 0 < (bfsB adj a n).D b ∧ (bfsB adj a n).D b ≤ k + 1
  | 0, b, hw => by
    have : a = b := hw
    subst this; rw [bfsB_start]; omega
  | k + 1, b, hw => by
    obtain ⟨c, h1, h2⟩ := hw
    obtain ⟨p, q⟩ := Wk.dist h ha h1
    exact ⟨bfsB_closed h ha p h2, by have := bfsB_step h ha p h2; omega⟩
theorem Wk.of {adj : Nat → List Nat} {n a : Nat} (h : a < n) (ha : ∀ y, ∀ x ∈ adj y, x < n) : ∀ (d : Nat) {b : Nat}, (bfsB adj a n).D b = d + 1 → Wk adj d a b
  | 0, b, hd => (bfsB_one h ha n b hd).symm
  | d + 1, b, hd => by
    obtain ⟨y, h1, h2, h3⟩ := bfsB_back h ha n b (by omega)
    exact ⟨y, Wk.of h ha d (by omega), h3⟩
/-- ways are the same back -/
theorem bfsB_symm {adj : Nat → List Nat} {n a b : Nat} (h : a < n) (hb : b < n) (ha : ∀ y, ∀ x ∈ adj y, x < n) (hs : ∀ a b, a < n → b ∈ adj a → a ∈ adj b) (hp : 0 < (bfsB adj a n).D b) : (bfsB adj b n).D a = (bfsB adj a n).D b := by
  have w1 := Wk.of h ha ((bfsB adj a n).D b - 1) (b := b) (by omega)
  obtain ⟨p, q⟩ := Wk.dist hb ha (w1.flip hs ha h)
  have w2 := Wk.of hb ha ((bfsB adj b n).D a - 1) (b := a) (by omega)
  have := (Wk.dist h ha (w2.flip hs ha hb)).2
  omega
/-- no detour is shorter -/
theorem bfsB_tri {adj : Nat → List Nat} {n a x b : Nat} (h : a < n) (hx : x < n) (ha : ∀ y, ∀ x ∈ adj y, x < n) (hax : x ∈ adj a) (hp : 0 < (bfsB adj x n).D b) : (bfsB adj a n).D b ≤ (bfsB adj x n).D b + 1 := by
  have w1 := Wk.of hx ha ((bfsB adj x n).D b - 1) (b := b) (by omega)
  have := (Wk.dist h ha (w1.cons hax)).2
  omega
/-- one step just to neighbours -/
theorem bfsB_two {adj : Nat → List Nat} {n a b : Nat} (h : a < n) (ha : ∀ y, ∀ x ∈ adj y, x < n) (hne : a ≠ b) (hab : b ∈ adj a) : (bfsB adj a n).D b = 2 := by
  obtain ⟨p, q⟩ := Wk.dist h ha (k := 1) (b := b) ⟨a, rfl, hab⟩
  have : (bfsB adj a n).D b ≠ 1 := fun e => hne (bfsB_one h ha n b e).symm
  omega
/-- the number of rooms reached in so many steps grows: no way is longer than there are rooms -/
theorem bfsB_lt {adj : Nat → List Nat} {n a b : Nat} (h : a < n) (ha : ∀ y, ∀ x ∈ adj y, x < n) : (bfsB adj a n).D b ≤ n := by
  have hI := bfsB_inv h ha n
  exact Nat.le_trans (hI.le b) hI.few
end Go.Proofs.Ytkbgkkempooplaa

/-
  The fewest steps from a room to all others: the model's answer. (Walk.)
-/
namespace Go.Proofs.Ytkbgkkempooplaa
open Go.RowKit

/-- the neighbours of a room, by how long rooms lie beside each other -/
def adjF (f : Nat → Nat → Nat) (n y : Nat) : List Nat := (List.range n).filter fun b => decide (0 < f y b)
theorem adjF_lt (f : Nat → Nat → Nat) (n y : Nat) : ∀ x ∈ adjF f n y, x < n := fun x hx => by
  unfold adjF at hx; exact List.mem_range.1 (List.mem_filter.1 hx).1
theorem adjF_len (f : Nat → Nat → Nat) (n y : Nat) : (adjF f n y).length ≤ n := by
  unfold adjF; have := List.length_filter_le (fun b => decide (0 < f y b)) (List.range n); simpa using this
/-- how long two rooms lie beside each other -/
def bsF (p : List ByteArray) (a b : Nat) : Nat := besN p (a : Int) (b : Int)
theorem ofL_adj (p : List ByteArray) (n y : Nat) : ofL p (y : Int) n = (adjF (bsF p) n y).map fun (b : Nat) => (b : Int) := rfl

/-- the steps as they are written: none for rooms that are not reached -/
def outB (D : Nat → Nat) (n : Nat) : List Int := (List.range n).map fun b => ((D b : Nat) : Int) - 1
theorem outB_len (D : Nat → Nat) (n : Nat) : (outB D n).length = n := by simp [outB]
theorem outB_at {D : Nat → Nat} {n b : Nat} (h : b < n) : ((outB D n).map (Value.int .i64))[b]? = some (.int .i64 (((D b : Nat) : Int) - 1)) := by simp [outB, h]
theorem outB_upd {D : Nat → Nat} {n x : Nat} (v : Nat) (h : x < n) : (outB (updD D x v) n).map (Value.int .i64) = ((outB D n).map (Value.int .i64)).set x (.int .i64 ((v : Int) - 1)) := by
  apply List.ext_getElem?
  intro i
  rw [List.getElem?_set]
  by_cases hi : i < n
  · rw [outB_at hi]
    by_cases he : x = i
    · subst he
      rw [if_pos rfl, if_pos (by simpa [outB_len] using h), updD_self]
    · rw [if_neg he, outB_at hi, updD_other _ _ (Ne.symm he)]
  · rw [List.getElem?_eq_none (by rw [List.length_map, outB_len]; omega)]
    rw [if_neg (by omega), List.getElem?_eq_none (by rw [List.length_map, outB_len]; omega)]
theorem outB_start {n a : Nat} (h : a < n) : (outB (fun y => if y = a then 1 else 0) n).map (Value.int .i64) = ((List.replicate n (-1 : Int)).map (Value.int .i64)).set a (.int .i64 0) := by
  apply List.ext_getElem?
  intro i
  rw [List.getElem?_set]
  by_cases hi : i < n
  · rw [outB_at hi]
    by_cases he : a = i
    · subst he; rw [if_pos rfl, if_pos rfl, if_pos (by simpa using h)]; rfl
    · rw [if_neg he, if_neg (Ne.symm he)]
      simp [hi]
  · rw [List.getElem?_eq_none (by rw [List.length_map, outB_len]; omega)]
    rw [if_neg (by omega), List.getElem?_eq_none (by simp; omega)]
/-- numbers as they stand in memory -/
def intsN (L : List Nat) : List Value := L.map fun (b : Nat) => Value.int .i64 (b : Int)
theorem intsN_len (L : List Nat) : (intsN L).length = L.length := by simp [intsN]
theorem intsN_snoc (L : List Nat) (x : Nat) : intsN (L ++ [x]) = intsN L ++ [.int .i64 (x : Int)] := by simp [intsN]
theorem intsN_at {L : List Nat} {i : Nat} (h : i < L.length) : (intsN L)[i]? = some (.int .i64 ((L.getD i 0 : Nat) : Int)) := by
  unfold intsN
  rw [List.getElem?_map, List.getElem?_eq_getElem h, List.getD_eq_getElem?_getD, List.getElem?_eq_getElem h]; rfl

/-- what lies in memory while rooms are reached -/
structure StSt (w : World) (n O oc : Nat) (s : Bf) (qo : Option Addr) (qc : Nat) (wr : World) : Prop where
  out : wr.ownsRow w.heap.size 3 1 (.slice (some ⟨O, 0, none⟩) n oc) n ((outB s.D n).map (Value.int .i64))
  q : wr.ownsRow w.heap.size 3 1 (.slice qo s.q.length qc) s.q.length (intsN s.q)
  ne : ∀ a, qo = some a → a.block ≠ O
  below : Below w.heap.size w wr
theorem StSt.step {w wr w' : World} {n O oc : Nat} {s : Bf} {qo : Option Addr} {qc : Nat} (h : StSt w n O oc s qo qc wr) (hb : Below wr.heap.size wr w') : StSt w n O oc s qo qc w' :=
  ⟨ownsRow_below h.out hb, ownsRow_below h.q hb, h.ne, below_step h.below h.below.size hb⟩
theorem StSt.outCell {w wr : World} {n O oc : Nat} {s : Bf} {qo : Option Addr} {qc : Nat} (h : StSt w n O oc s qo qc wr) {x : Nat} (hx : x < n) : wr.cell? ⟨O, x, none⟩ = some (.int .i64 (((s.D x : Nat) : Int) - 1)) := by
  rw [h.out.cellAt x (by omega), outB_at hx]

theorem owns_kept' {w : World} {base : Nat} {e : TypeId} {size : Nat} {ao : Option Addr} {m cap n : Nat} {xs : List Value} {O x : Nat} {v : Value} (h : w.ownsRow base e size (.slice ao m cap) n xs) (hne : ∀ a, ao = some a → a.block ≠ O) : (w.setCell ⟨O, x, none⟩ v).ownsRow base e size (.slice ao m cap) n xs := by
  refine h.kept (row := some O) ⟨by simp [World.setCell], by simp [World.setCell], by simp [World.setCell], by simp [World.setCell], fun k hk hn => ?_⟩ ?_
  · have hne' : O ≠ k := fun he => hn (by rw [he])
    simp [World.setCell, Array.getElem?_modify, hne']
  · cases ao with
    | none => exact .inl rfl
    | some a => exact .inr (by simp only [Value.ownBlock, ne_eq, Option.some.injEq]; exact hne a rfl)

set_option maxRecDepth 100000 in
set_option maxHeartbeats 8000000 in
theorem l4Steps_any (ao : Option Addr) (cap : Nat) (p : List ByteArray) (a : Nat) (w : World) (hp : planB p = true) (ha : a < gridR p) (hl : p.length ≤ 1048576) (hs : ∀ s ∈ p, s.size ≤ 1048576) (hc : CellsAt w ao (p.map Value.string)) :
    Calls Try.prog 31 #[.slice ao p.length cap, .int .i64 a] w
      fun e w' => ∃ ro rc, e = .returned (.slice ro (gridR p) rc) ∧ w'.ownsRow w.heap.size 3 1 (.slice ro (gridR p) rc) (gridR p) ((outB (bfsB (adjF (bsF p) (gridR p)) a (gridR p)).D (gridR p)).map (Value.int .i64)) ∧ Below w.heap.size w w' := by
  obtain ⟨it, hti0, htz, ht1, ht2⟩ := info_parts Try.infoNum
  have hti := hti0
  have hb0 := below_alloc w (.cells #[] 3)
  have hr0 : (w.alloc (.cells #[] 3)).ownsRow w.heap.size 3 1 (.slice (some ⟨w.heap.size, 0, none⟩) 0 0) 0 ((List.replicate 0 (-1 : Int)).map (Value.int .i64)) := World.ownsRow_made w #[] 0 (Nat.le_refl _) (Nat.zero_le _) rfl
  have hR9 := (planP_of hp).few
  have HR := Lib.hid (fun w c => l1Rooms_any ao cap p w hl hs c)
  rw [(planP_of hp).rooms] at HR
  have HO := Lib.hid (fun (y : Nat) w c => by have h := l4Of_any ao cap p (y : Int) w hp hl hs c; rw [ofL_adj, List.length_map, List.map_map] at h; exact (show Calls _ _ _ _ fun e w' => ∃ ro rc, e = .returned (.slice ro (adjF (bsF p) (gridR p) y).length rc) ∧ w'.ownsRow w.heap.size 3 1 (.slice ro (adjF (bsF p) (gridR p) y).length rc) (adjF (bsF p) (gridR p) y).length (intsN (adjF (bsF p) (gridR p) y)) ∧ Below w.heap.size w w' from h))
  have HI := Lib.hid (bfsB_inv (adj := adjF (bsF p) (gridR p)) ha (fun y => adjF_lt (bsF p) (gridR p) y))
  have HE := Lib.hid (fun i (hi : i ≤ gridR p) h => bfsB_end (adj := adjF (bsF p) (gridR p)) (a := a) hi h)
  have HS := Lib.hid (fun i (h : i < (bfsB (adjF (bsF p) (gridR p)) a i).q.length) => show bfsB (adjF (bsF p) (gridR p)) a (i + 1) = tchsB _ _ _ from if_pos h)
  have HAL := Lib.hid (fun y => adjF_lt (bsF p) (gridR p) y)
  have HAN := Lib.hid (fun y => adjF_len (bsF p) (gridR p) y)
  have H0 := Lib.hid (show bfsB (adjF (bsF p) (gridR p)) a 0 = ⟨fun y => if y = a then 1 else 0, [a]⟩ from rfl)
  have HC := Lib.hid hc
  generalize hadj : adjF (bsF p) (gridR p) = adj at *
  clear hadj
  generalize gridR p = n at *
  clear hp hl hs hc
  go_enter Try.func31, Try.ntmps31
  go_wp2
  go_loopw [5, 6] (fun vo vi wr => ∃ (i : Nat) (ro : Option Addr) (rc : Nat), i ≤ n ∧ vi = .int .i64 i ∧ vo = .slice ro i rc ∧ wr.ownsRow w.heap.size 3 1 (.slice ro i rc) i ((List.replicate i (-1 : Int)).map (Value.int .i64)) ∧ Below w.heap.size w wr) (fun _ vi _ => n - (intOf vi).toNat)
  case atStart => exact ⟨0, _, _, Nat.zero_le _, rfl, rfl, hr0, hb0⟩
  case round =>
    clear hr0 hb0
    obtain ⟨i, ro, rc, hi, rfl, rfl, hrow, hb⟩ := hrel
    have hcr := HC.out.below hb
    have hbs := hb.size
    go_wp2_with fail
    refine (HR.out _ hcr).mono ?_
    rintro e w2 ⟨rfl, rfl⟩
    by_cases hlt : i < n
    · have hlt' : decide ((i : Int) < (n : Int)) = true := by rw [decide_eq_true_eq]; omega
      have hb1' : i + 1 ≤ maxLen := by unfold maxLen; omega
      have hb2' : (i + 1) * 8 ≤ 140737488355328 := by omega
      go_wp2_with (at_builtin; refine wpList_push _ rfl (.tmp 18) (.tmp 19) 30 rfl w.heap.size 3 it (.int .i64 0) 8 Try.underlying30 hti htz ht1 ht2 rfl ro i rc _ rfl (hrow.alloc _) _ _ _ rfl (cell_new _ _ _) rfl hb1' hb2' (by simp; omega) ?_; intro ro2 rc2 w4 hrow2 hg2 hnew2)
      have hrow3 : w4.ownsRow w.heap.size 3 1 (.slice ro2 (i + 1) rc2) (i + 1) ((List.replicate (i + 1) (-1 : Int)).map (Value.int .i64)) := by
        rw [List.replicate_succ', List.map_append]; exact hrow2
      go_roundw
      case rel => exact ⟨i + 1, ro2, rc2, by omega, by go_num, by first | rfl | trivial, hrow3, below_push hb hbs hg2 (fun a ha => (owns_lt hrow a ha).1)⟩
      case measure => simp [intOf]; omega
    · obtain rfl : i = n := by omega
      have hlt' : decide ((i : Int) < (i : Int)) = false := by rw [decide_eq_false_iff_not]; omega
      clear hlt
      obtain ⟨O, rfl⟩ : ∃ O, ro = some ⟨O, 0, none⟩ := by
        rcases hrow.2 with ⟨h, h0⟩ | ⟨g, c, cur, h, _⟩
        · omega
        · simp only [Value.slice.injEq] at h; exact ⟨g, h.1⟩
      have hO := owns_lt hrow _ rfl
      have hst := (hrow.stored a (.int .i64 0)).1
      rw [← outB_start ha] at hst
      have hfz := hrow.frozenAt a
      have hca := hrow.cellAt a (by omega)
      have hz1 : ((List.replicate i (-1 : Int)).map (Value.int .i64))[a]? = some (.int .i64 (-1)) := by simp [ha]
      rw [hz1] at hca
      have hb3 := hb.setCell (p := ⟨O, a, none⟩) hO.1 (.int .i64 0)
      have hai : (a : Int) < (i : Int) := by omega
      have HX := Lib.hid (And.intro hst hb3)
      clear hst hb3 hrow hz1
      have hsz : (w2.setCell ⟨O, a, none⟩ (.int .i64 0)).heap.size = w2.heap.size := by simp [World.setCell]
      have HSZ := Lib.hid hsz
      clear hsz
      go_wp2
      have hq0 : ((w2.setCell ⟨O, a, none⟩ (.int .i64 0)).alloc (.cells #[.int .i64 a] 3)).ownsRow w.heap.size 3 1 (.slice (some ⟨w2.heap.size, 0, none⟩) 1 1) 1 (intsN [a]) := by
        have h := owns_lit (w2.setCell ⟨O, a, none⟩ (.int .i64 0)) w.heap.size 3 [.int .i64 a] (by rw [HSZ.out]; exact hbs) (by unfold maxLen; simp)
        rw [HSZ.out] at h
        exact h
      have hst0 : StSt w i O rc (bfsB adj a 0) (some ⟨w2.heap.size, 0, none⟩) 1 ((w2.setCell ⟨O, a, none⟩ (.int .i64 0)).alloc (.cells #[.int .i64 a] 3)) := by
        obtain ⟨x1, x2⟩ := HX.out
        rw [H0.out]
        exact ⟨x1.alloc _, hq0, fun b hb => by simp only [Option.some.injEq] at hb; subst hb; show w2.heap.size ≠ O; omega, x2.alloc x2.size _⟩
      have hOw := hO.1
      have HL1 := Lib.hid (show (bfsB adj a 0).q.length = 1 by rw [H0.out]; rfl)
      clear hq0 HX HSZ hfz hca hai hb hcr hbs hO H0 HR
      generalize (w2.setCell ⟨O, a, none⟩ (.int .i64 0)).alloc (.cells #[.int .i64 a] 3) = W0 at *
      generalize w2.heap.size = Qb at *
      obtain ⟨n, hn⟩ : ∃ n, n = i := ⟨_, rfl⟩
      subst hn
      go_loopw [7, 8] (fun vq vi wr => ∃ (i : Nat) (qo : Option Addr) (qc : Nat), i ≤ (bfsB adj a i).q.length ∧ i ≤ n ∧ vi = .int .i64 i ∧ vq = .slice qo (bfsB adj a i).q.length qc ∧ StSt w n O rc (bfsB adj a i) qo qc wr) (fun _ vi _ => n - (intOf vi).toNat)
      case atStart => exact ⟨0, _, _, Nat.zero_le _, Nat.zero_le _, rfl, by rw [HL1.out], hst0⟩
      case round =>
        clear hst0
        obtain ⟨i, qo, qc, hiq, hin, rfl, rfl, hst⟩ := hrel
        have hI := HI.out i
        have hqn := hI.few
        by_cases hlt : i < (bfsB adj a i).q.length
        · have hlt' : decide ((i : Int) < ((bfsB adj a i).q.length : Int)) = true := by rw [decide_eq_true_eq]; omega
          have HSS := Lib.hid (HS.out i hlt)
          have HLN := Lib.hid (show i + 1 ≤ (bfsB adj a (i + 1)).q.length from Nat.le_trans hlt (BfG.rnd adj (bfsB adj a i) i).len)
          have hyq : (bfsB adj a i).q.getD i 0 ∈ (bfsB adj a i).q := getD_mem 0 hlt
          have hyn := hI.lt _ hyq
          have HQC := Lib.hid (intsN_at hlt)
          generalize hs0 : bfsB adj a i = s at *
          have HAT := Lib.hid (fun t (h : BfG s t) => h.at hlt)
          generalize hy0 : s.q.getD i 0 = y at *
          obtain ⟨qb, qoff, rfl, hqc⟩ := (owns_cells hst.q) i _ HQC.out
          have hcw := HC.out.below hst.below
          have HBL := Lib.hid hst.below
          clear hs0 hy0
          generalize hsl : s.q.length = sl at *
          have HSL := Lib.hid hsl
          clear hsl
          have HST := Lib.hid hst
          clear hst
          go_wp2_with fail
          refine (HO.out y _ hcw).mono ?_
          rintro e w5 ⟨no, nc, rfl, hnr, hb5⟩
          have hnl := owns_lt hnr
          have hqs := hb5.size
          have hOl := owns_lt HST.out.out _ rfl
          have hOl2 : O < wr.heap.size := hOl.2
          have hqbl := (owns_lt HST.out.q _ rfl)
          have hqb2 : qb < wr.heap.size := hqbl.2
          have hst5 := HST.out.step hb5
          have hnc5 := owns_cells hnr
          have HNB := Lib.hid (show ∀ b, no = some b → b.block ≠ O ∧ b.block < w5.heap.size from fun b hb => ⟨by have := hnl b hb; omega, (hnl b hb).2⟩)
          have hnq5 : ∀ b c, no = some b → (some ⟨qb, qoff, none⟩ : Option Addr) = some c → b.block ≠ c.block := fun b c hb hc => by
            simp only [Option.some.injEq] at hc; subst hc; have := hnl b hb; show b.block ≠ qb; omega
          have hst5' : StSt w n O rc (tchsB y s ((adj y).take 0)) (some ⟨qb, qoff, none⟩) qc w5 := hst5
          have HW5 := Lib.hid (Nat.le_refl w5.heap.size)
          have HSL2 := Lib.hid (show (tchsB y s ((adj y).take 0)).q.length = sl from HSL.out)
          have HTK := Lib.hid (fun k (hk : k < (adj y).length) => show tchsB y s ((adj y).take (k + 1)) = tchB y (tchsB y s ((adj y).take k)) ((adj y).getD k 0) by rw [take_succ_getD (adj y) k 0 hk, tchsB_snoc])
          have HTI := Lib.hid (fun k => hI.tchs (y := y) ((adj y).take k) (fun x hx => HAL.out y x (List.mem_of_mem_take hx)))
          have HTG := Lib.hid (fun k => BfG.tchs y ((adj y).take k) s)
          have HTL := Lib.hid (show tchsB y s ((adj y).take (adj y).length) = tchsB y s (adj y) by rw [List.take_length])
          have HNC := Lib.hid (fun k (hk : k < (adj y).length) => intsN_at hk)
          have HXN := Lib.hid (fun k (hk : k < (adj y).length) => HAL.out y _ (getD_mem 0 hk))
          have hAn := HAN.out y
          have HYP := Lib.hid (hI.pos y hyq)
          obtain ⟨W5, hW5⟩ : ∃ W5, W5 = w5.heap.size := ⟨_, rfl⟩
          rw [← hW5] at HNB HW5
          have hW5' : W5 ≤ w5.heap.size := by omega
          clear hW5 hst5 hnr hnl hqs hOl hqbl HST hcw hqc HBL hb5 HQC
          generalize adj y = A at *
          go_wp2
          go_loopw [7, 10] (fun vq vk wm => ∃ (k : Nat) (qo : Option Addr) (qc : Nat), k ≤ A.length ∧ vk = .int .i64 k ∧ vq = .slice qo (tchsB y s (A.take k)).q.length qc ∧ StSt w n O rc (tchsB y s (A.take k)) qo qc wm ∧ CellsAt wm no (intsN A) ∧ (∀ b c, no = some b → qo = some c → b.block ≠ c.block) ∧ W5 ≤ wm.heap.size) (fun _ vk _ => A.length - (intOf vk).toNat)
          case atStart => exact ⟨0, _, _, Nat.zero_le _, rfl, by rw [HSL2.out], hst5', hnc5, hnq5, hW5'⟩
          case round =>
            clear hst5' hnc5 hnq5 hW5'
            obtain ⟨k, qo, qc, hk, rfl, rfl, hst, hnc, hnq, hws⟩ := hrel
            by_cases hkl : k < A.length
            · have hkl' : decide ((k : Int) < (A.length : Int)) = true := by rw [decide_eq_true_eq]; omega
              have hJ := HTI.out k
              have hG := HTG.out k
              have HTS := Lib.hid (HTK.out k hkl)
              have HTN := Lib.hid (HTI.out (k + 1)).few
              have hxn := HXN.out k hkl
              obtain ⟨nb, noff, rfl, hcx⟩ := hnc k _ (HNC.out k hkl)
              rw [HTS.out] at HTN
              have HKX := Lib.hid (HNC.out k hkl)
              generalize A.getD k 0 = x at *
              generalize tchsB y s (A.take k) = t at *
              have htiq : i < t.q.length := by have := hG.len; have := HSL.out; omega
              have HTQ := Lib.hid (by have := intsN_at htiq; rw [HAT.out t hG] at this; exact this)
              have hcO := hst.outCell hxn
              have hle := hJ.le x
              have hfew := hJ.few
              by_cases hD : t.D x = 0
              · rw [tchB_new hD] at HTS HTN
                rw [hD] at hcO
                have hcx0 : wr.cell? ⟨O, x, none⟩ = some (.int .i64 (-1)) := by simpa using hcO
                have hpy : 0 < t.D y := by rw [hG.D y HYP.out]; exact HYP.out
                have hcy := hst.outCell hyn
                have hly := hJ.le y
                obtain ⟨v, hv⟩ : ∃ v, t.D y = v + 1 := ⟨t.D y - 1, by omega⟩
                rw [hv] at hcy hly HTS
                have hcy0 : wr.cell? ⟨O, y, none⟩ = some (.int .i64 (v : Int)) := by rw [hcy]; congr 2; omega
                have hfz := hst.out.frozenAt x
                have hO2 := (owns_lt hst.out _ rfl).2
                have hO3 : O < wr.heap.size := hO2
                have HWX := Lib.hid (fun m => show StSt w n O rc ⟨updD t.D x (v + 1 + 1), t.q⟩ qo qc ((wr.drewN m).setCell ⟨O, x, none⟩ (.int .i64 ((v : Int) + 1))) from
                  have h1 := (hst.step (below_drewN _ _ m))
                  ⟨by
                    have h2 := (h1.out.stored x (.int .i64 ((v : Int) + 1))).1
                    rw [show ((v : Int) + 1) = (((v + 1 + 1 : Nat) : Int) - 1) by omega] at h2 ⊢
                    rw [← outB_upd _ hxn] at h2
                    exact h2, owns_kept' h1.q h1.ne, h1.ne, h1.below.setCell (p := ⟨O, x, none⟩) hOw _⟩)
                have HNX := Lib.hid (fun m => show CellsAt ((wr.drewN m).setCell ⟨O, x, none⟩ (.int .i64 ((v : Int) + 1))) (some ⟨nb, noff, none⟩) (intsN A) from (hnc.drewN m).setOther (p := ⟨O, x, none⟩) (fun b hb => (HNB.out b hb).1) _)
                obtain ⟨qb', qoff', rfl, hqi⟩ := (owns_cells hst.q) i _ HTQ.out
                have hlv : v ≤ 9 := by omega
                have HLT := Lib.hid hlt
                have hx6 : (x : Int) < (n : Int) := by omega
                have hy6 : (y : Int) < (n : Int) := by omega
                have hii : (i : Int) < (t.q.length : Int) := by omega
                clear hcO hcy hv hD hle hfew hly hpy
                go_wp2
                go_region
                have s1 := HWX.out 1
                have n1 := HNX.out 1
                change StSt w n O rc ⟨updD t.D x (v + 1 + 1), t.q⟩ _ qc (wr.setCell ⟨O, x, none⟩ (.int .i64 ((v : Int) + 1))).drew at s1
                change CellsAt (wr.setCell ⟨O, x, none⟩ (.int .i64 ((v : Int) + 1))).drew _ _ at n1
                have hws1 : W5 ≤ (wr.setCell ⟨O, x, none⟩ (.int .i64 ((v : Int) + 1))).drew.heap.size := by simp [World.setCell]; exact hws
                clear hst hnc hcx hqi hcx0 hcy0 hfz hws HWX HNX hO2 hO3
                generalize (wr.setCell ⟨O, x, none⟩ (.int .i64 ((v : Int) + 1))).drew = W7 at *
                have hcx : W7.cell? ⟨nb, noff + k, none⟩ = some (.int .i64 (x : Int)) := by
                  obtain ⟨b', o', he, hc⟩ := n1 k _ (by have := HNC.out k hkl; exact HKX.out)
                  simp only [Option.some.injEq, Addr.mk.injEq, and_true] at he
                  obtain ⟨rfl, rfl⟩ := he
                  exact hc
                have hrow := s1.q
                have hq9 : t.q.length ≤ 9 := by have := HTN.out; rw [List.length_append] at this; simp at this; omega
                have hb1' : t.q.length + 1 ≤ maxLen := by unfold maxLen; omega
                have hb2' : (t.q.length + 1) * 8 ≤ 140737488355328 := by omega
                have hbw := s1.below.size
                have HS1 := Lib.hid s1
                have hne := s1.ne
                have hNB := HNB.out _ rfl
                have hnb5 : nb < W5 := hNB.2
                clear s1 hx6 hy6 hii
                go_wp2_with (at_builtin; refine wpList_push _ rfl (.tmp 66) (.tmp 71) 30 rfl w.heap.size 3 it (.int .i64 0) 8 Try.underlying30 hti0 htz ht1 ht2 rfl _ t.q.length qc _ rfl (hrow.alloc _) _ _ _ rfl (cell_new _ _ _) rfl hb1' hb2' (by simp; omega) ?_; intro ro2 rc2 w4 hrow2 hg2 hnew2)
                have hO7 := (owns_lt HS1.out.out _ rfl).2
                have hO8 : O < W7.heap.size := hO7
                have hs4 := hg2.size
                rw [World.size_alloc] at hs4
                have f1 := owns_push_other HS1.out.out hg2 (fun b c hb hc => by simp only [Option.some.injEq] at hb; subst hb; exact fun he => hne c hc he.symm)
                have f2 := below_push HS1.out.below hbw hg2 (fun b hb => (owns_lt hrow b hb).1)
                have f3 := grown_lt hnew2 hne (by rw [World.size_alloc]; omega)
                have f4 := (n1.below (below_alloc W7 _)).grown hg2 (fun b hb => by
                  simp only [Value.ownBlock, ne_eq, Option.some.injEq]
                  exact hnq b _ hb rfl)
                have f5 : ∀ b c, (some ⟨nb, noff, none⟩ : Option Addr) = some b → ro2 = some c → b.block ≠ c.block := fun b c hb hc => by
                  rcases hnew2 c hc with h' | h'
                  · exact hnq b c hb h'
                  · rw [World.size_alloc] at h'
                    simp only [Option.some.injEq] at hb; subst hb
                    show nb ≠ c.block; omega
                rw [← intsN_snoc] at hrow2
                have f6 : StSt w n O rc (tchsB y s (A.take (k + 1))) ro2 rc2 w4 := by
                  rw [HTS.out]
                  exact ⟨f1, by rw [List.length_append]; exact hrow2, f3, f2⟩
                have HLL := Lib.hid (show (tchsB y s (A.take (k + 1))).q.length = t.q.length + 1 by rw [HTS.out]; simp)
                clear hrow2 f1 f2 f3 n1 hrow hg2 hnew2 HS1
                go_roundw
                case rel => exact ⟨k + 1, ro2, rc2, by omega, by go_num, by rw [HLL.out], f6, f4, f5, by omega⟩
                case measure => simp [intOf]; omega
              · rw [tchB_old hD] at HTS HTN
                have hVd : decide ((((t.D x : Nat) : Int) - 1) < 0) = false := by rw [decide_eq_false_iff_not]; omega
                generalize ((t.D x : Nat) : Int) - 1 = V at *
                go_wp2
                go_roundw
                case rel => exact ⟨k + 1, qo, qc, by omega, by go_num, by rw [HTS.out], by rw [HTS.out]; exact hst, hnc, hnq, hws⟩
                case measure => simp [intOf]; omega
            · have hkl' : decide ((A.length : Int) < (A.length : Int)) = false := by rw [decide_eq_false_iff_not]; omega
              obtain rfl : k = A.length := by omega
              rw [HTL.out, ← HSS.out] at hst
              have hE := HSS.out
              go_wp2
              go_roundw
              case rel => exact ⟨i + 1, qo, qc, HLN.out, by omega, by go_num, by rw [HSS.out, HTL.out], hst⟩
              case measure => simp [intOf]; omega
        · have hlt' : decide ((i : Int) < ((bfsB adj a i).q.length : Int)) = false := by rw [decide_eq_false_iff_not]; omega
          have hst' := hst.out
          rw [← HE.out i hin (by omega)] at hst'
          have hbl := hst.below
          clear hst
          generalize (bfsB adj a i).q.length = sl at *
          go_wp2
          go_ret
          exact ⟨_, _, rfl, hst', hbl⟩
end Go.Proofs.Ytkbgkkempooplaa

/-
  A slice from the middle of a block to its end, of the call's own: append to it. (Memory.)
-/
namespace Go.Proofs.Ytkbgkkempooplaa
open Go.RowKit

/-- a slice of one-cell elements that begins anywhere in a block of the call's own and may grow up to its end -/
def ownsWin (w : World) (base : Nat) (e : TypeId) (ao : Addr) (n cap : Nat) (xs : List Value) : Prop :=
  ∃ g off cur, ao = ⟨g, off, none⟩ ∧ base ≤ g ∧ w.heap[g]? = some (.cells cur e (0, 0)) ∧ n ≤ cap ∧ cap ≤ maxLen ∧ off + cap ≤ cur.size ∧ xs.length = n ∧ ∀ j v, xs[j]? = some v → cur[off + j]? = some v

theorem ownsWin.cells {w : World} {base : Nat} {e : TypeId} {ao : Addr} {n cap : Nat} {xs : List Value} (h : ownsWin w base e ao n cap xs) : CellsAt w (some ao) xs := fun i u hu => by
  obtain ⟨g, off, cur, rfl, _, hg, _, _, _, _, hc⟩ := h
  refine ⟨g, off, rfl, ?_⟩
  rw [cell_of_row w g (off + i) cur e (0, 0) hg]
  exact hc i u hu
theorem ownsWin.tail {w : World} {base : Nat} {e : TypeId} {g off n cap : Nat} {x : Value} {xs : List Value} (h : ownsWin w base e ⟨g, off, none⟩ (n + 1) cap (x :: xs)) : ownsWin w base e ⟨g, off + 1, none⟩ n (cap - 1) xs := by
  obtain ⟨g', off', cur, he, hb, hg, hn, hc, hs, hl, hx⟩ := h
  simp only [Addr.mk.injEq, and_true] at he
  obtain ⟨rfl, rfl⟩ := he
  refine ⟨g, off + 1, cur, rfl, hb, hg, by omega, by omega, by omega, by simpa using hl, fun j v hv => ?_⟩
  have := hx (j + 1) v (by simpa using hv)
  rw [← this]; congr 1; omega
/-- where what lies behind the first element begins: at the same place if there is no room behind it -/
def tailA (a : Addr) (cap : Nat) : Addr := if cap = 1 then a else a.add 1
theorem tailA_block (a : Addr) (cap : Nat) : (tailA a cap).block = a.block := by
  unfold tailA
  split
  · rfl
  · unfold Addr.add; split <;> rfl
theorem ownsWin.tailA {w : World} {base : Nat} {e : TypeId} {ra : Addr} {n cap : Nat} {x : Value} {xs : List Value} (h : ownsWin w base e ra (n + 1) cap (x :: xs)) : ownsWin w base e (tailA ra cap) n (cap - 1) xs := by
  obtain ⟨g, off, cur, rfl, hb, hg, hn, hc, hs, hl, hx⟩ := h
  by_cases h1 : cap = 1
  · have : xs = [] := by
      have h2 : xs.length = n := by simpa using hl
      exact List.eq_nil_of_length_eq_zero (by omega)
    subst this
    unfold Go.Proofs.Ytkbgkkempooplaa.tailA
    rw [if_pos h1]
    exact ⟨g, off, cur, rfl, hb, hg, by omega, by omega, by omega, by simp at hl ⊢; omega, fun j v hv => by simp at hv⟩
  · unfold Go.Proofs.Ytkbgkkempooplaa.tailA
    rw [if_neg h1, Addr.add_lit]
    exact (ownsWin.tail ⟨g, off, cur, rfl, hb, hg, hn, hc, hs, hl, hx⟩)
theorem wpList_tail {P : Program} {ops : Array Oper} {rest : List Oper} {o : Oper} {a : Act} {w : World} {Q : Exit → Act → World → Prop} (hgd : o.guard = none) (t : TypeId) (x : Operand)
    (ho : o.op = .slice t x (some (.const (.int .i64 1))) none none) (ra : Addr) (m cap : Nat) (hx : a.eval x = .slice (some ra) m cap) (h1 : 1 ≤ m) (ht : P.underlying t = some (.slice (P.elem t))) (hs : (P.info? (P.elem t)).map (·.size) = some 1)
    (h : wpList P ops Q rest (a.put o.dst (.slice (some (tailA ra cap)) (m - 1) (cap - 1))) w) : wpList P ops Q (o :: rest) a w := by
  refine wpList_plain hgd fun K hK' => ?_
  have h2 := hK' _ _ h
  obtain ⟨i, hi, hi1⟩ : ∃ i, P.info? (P.elem t) = some i ∧ i.size = 1 := by
    cases hh : P.info? (P.elem t) with
    | none => rw [hh] at hs; cases hs
    | some i => rw [hh] at hs; exact ⟨i, rfl, by simpa using hs⟩
  have hc1 : a.eval (.const (.int .i64 1)) = .int .i64 1 := rfl
  unfold Oper.wp
  simp [execOp, ho, hx, hc1, run_sliceAt_slice (h := ht), run_slice_l (ht := ht) (h0 := (by decide : (0 : Int) ≤ 1)) (h1 := (by omega : (1 : Int) ≤ (m : Int))), sizeOf, typeInfo, hi, hi1, sliced, Result.andThen]
  have e : (if cap = 1 then some ra else some (ra.add 1)) = some (tailA ra cap) := by unfold tailA; split <;> rfl
  rw [e]; exact h2
theorem ownsWin.kept {w w' : World} {base : Nat} {e : TypeId} {ao : Addr} {n cap : Nat} {xs : List Value} (h : ownsWin w base e ao n cap xs) (hb : w'.heap[ao.block]? = w.heap[ao.block]?) : ownsWin w' base e ao n cap xs := by
  obtain ⟨g, off, cur, rfl, hbg, hg, rest⟩ := h
  exact ⟨g, off, cur, rfl, hbg, by rw [← hg]; exact hb, rest⟩
theorem ownsWin.lt {w : World} {base : Nat} {e : TypeId} {ao : Addr} {n cap : Nat} {xs : List Value} (h : ownsWin w base e ao n cap xs) : base ≤ ao.block ∧ ao.block < w.heap.size := by
  obtain ⟨g, off, cur, rfl, hb, hg, _⟩ := h
  exact ⟨hb, (Array.getElem?_eq_some_iff.1 hg).1⟩
theorem ownsWin.below {w w' : World} {base : Nat} {e : TypeId} {ao : Addr} {n cap : Nat} {xs : List Value} (h : ownsWin w base e ao n cap xs) (hb : Below w.heap.size w w') : ownsWin w' base e ao n cap xs :=
  h.kept (hb.block _ h.lt.2)
theorem ownsWin.alloc {w : World} {base : Nat} {e : TypeId} {ao : Addr} {n cap : Nat} {xs : List Value} (h : ownsWin w base e ao n cap xs) (o : Obj) : ownsWin (w.alloc o) base e ao n cap xs := h.below (below_alloc w o)
theorem ownsWin.of {w : World} {base : Nat} {e : TypeId} {g n cap : Nat} {xs : List Value} (h : w.ownsRow base e 1 (.slice (some ⟨g, 0, none⟩) n cap) n xs) : ownsWin w base e ⟨g, 0, none⟩ n cap xs := by
  rcases h.2 with ⟨hv, _⟩ | ⟨g', cap', cur, hv, hb, hg, hn, hc, hs, ht⟩
  · cases hv
  · simp only [Value.slice.injEq, Option.some.injEq, Addr.mk.injEq, and_true] at hv
    obtain ⟨rfl, _, rfl⟩ := hv
    refine ⟨g, 0, cur, rfl, hb, hg, hn, hc, by omega, by have := h.1; omega, fun j v hj => ?_⟩
    rw [← ht, List.getElem?_take] at hj
    split at hj
    · rw [Nat.zero_add]; simpa using hj
    · cases hj

theorem run_pushW {P : Program} (w : World) (base : Nat) (t ty e : TypeId) (i : TypeInfo) (z : Value) (bytes : Nat) (ht : P.underlying t = some (.slice e)) (hi : P.info? e = some i) (hz : i.zero = some z)
    (hsize : i.size = 1) (hby : i.bytes = bytes) (hzs : z.cells.size = 1) (ao : Addr) (n cap : Nat) (xs : List Value) (hown : ownsWin w base e ao n cap xs)
    (u : Value) (g c : Nat) (hu : w.cell? ⟨g, 0, none⟩ = some u) (h1 : u.oneCell' = true) (h63 : n + 1 ≤ maxLen) (hbytes : (n + 1) * bytes ≤ 140737488355328) (hbase : base ≤ w.heap.size) :
    ∃ ao' cap' w', (Builtin.append_ #[t, t] ty #[.slice (some ao) n cap, .slice (some ⟨g, 0, none⟩) 1 c]).run P w = .ok (.slice (some ao') (n + 1) cap') w' ∧ ownsWin w' base e ao' (n + 1) cap' (xs ++ [u]) ∧
      w.grownBy w' (some ao.block) ∧ (ao' = ao ∨ w.heap.size ≤ ao'.block) := by
  have hnews : ∀ (j : Nat) (v : Value), [u][j]? = some v → w.cell? ((⟨g, 0, none⟩ : Addr).add j) = some v := by
    intro j v hv
    cases j with
    | zero => simp only [List.getElem?_cons_zero, Option.some.injEq] at hv; subst hv; simpa [Addr.add] using hu
    | succ j => simp at hv
  have h1' : ∀ v ∈ [u], v.oneCell' = true := by simpa using h1
  have hcl := hown.cells
  obtain ⟨g0, off, cur, rfl, hb0, hg0, hnc, hcm, hcs, hxl, hx⟩ := hown
  by_cases hroom : n + 1 ≤ cap
  · have hf := run_firstCells_some (P := P) w i.size 1 ⟨g, 0, none⟩ 1 c [u] (by simp [hsize]) hnews
    have hst := run_storeCells_at P g0 (off + n * i.size) e [u] 0 cur w hg0 (by rw [hsize]; simp; omega) h1'
    simp only [Nat.add_zero] at hst
    refine ⟨⟨g0, off, none⟩, cap, _, by simp [Builtin.append_, run_underlying ht, sizeOf, typeInfo, hi, Builtin.lenOf, hroom, hf, Addr.add_lit, hst]; exact rfl, ?_, ?_, .inl rfl⟩
    · refine ⟨g0, off, _, rfl, hb0, setRow_heap w g0 cur _ e _ hg0, hroom, hcm, ?_, by simp [hxl], fun j v hj => ?_⟩
      · rw [hsize]; simp only [List.size_toArray, List.length_append, List.length_take, List.length_drop, Array.length_toList, List.length_cons]; omega
      · rw [hsize, Nat.mul_one, List.getElem?_toArray]
        rcases Nat.lt_or_ge j n with hjn | hjn
        · rw [List.getElem?_append_left (by rw [hxl]; exact hjn)] at hj
          have := hx j v hj
          rw [List.getElem?_append_left (by rw [List.length_take, Array.length_toList]; omega), List.getElem?_take, if_pos (by omega)]
          simpa using this
        · rw [List.getElem?_append_right (by omega), hxl] at hj
          have hj0 : j - n = 0 := by
            rcases Nat.eq_zero_or_pos (j - n) with h | h
            · exact h
            · rw [List.getElem?_eq_none (by simp; omega)] at hj; cases hj
          rw [hj0] at hj
          obtain rfl : j = n := by omega
          rw [List.getElem?_append_right (by rw [List.length_take, Array.length_toList]; omega), List.length_take, Array.length_toList, Nat.min_eq_left (by omega), Nat.sub_self]
          exact hj
    · exact ⟨rfl, rfl, rfl, by simp, fun k hk hne => setRow_other w g0 k _ (fun e => hne (by rw [e]))⟩
  · have holds : ∀ j v, xs[j]? = some v → w.cell? ((⟨g0, off, none⟩ : Addr).add j) = some v := fun j v hj => by
      obtain ⟨b, o, he, hc⟩ := hcl j v hj
      simp only [Option.some.injEq, Addr.mk.injEq, and_true] at he
      obtain ⟨rfl, rfl⟩ := he
      rw [Addr.add_lit]; exact hc
    have hr := run_append_grow (P := P) w t ty e i z ht hi hz ⟨g0, off, none⟩ n cap xs (by rw [hsize]; omega) holds ⟨g, 0, none⟩ 1 c [u] (by simp [hsize]) hnews (by omega) (by simp only [maxLen] at h63; omega) (growslice_fits (by simp only [maxLen] at h63; omega) (by rw [hby]; exact hbytes))
    refine ⟨_, _, _, hr, ?_, ?_, .inr (Nat.le_refl _)⟩
    rotate_left
    · exact ⟨rfl, rfl, rfl, by simp, fun k hk _ => heap_alloc_old w.drew _ hk⟩
    have hge := grownCap_ge w (n + 1) cap e
    have hcm' : grownCap w (n + 1) cap e ≤ maxLen := grownCap_le_maxLen w (n + 1) cap e h63
    refine ⟨w.heap.size, 0, _, rfl, hbase, heap_alloc_new w.drew _, hge, hcm', ?_, by simp [hxl], fun j v hj => ?_⟩
    · simp only [Array.size_append, List.size_toArray, size_zeroCells, hzs, hxl, List.length_cons, List.length_nil]
      omega
    · rw [Nat.zero_add]
      have hj2 := (List.getElem?_eq_some_iff.1 hj).1
      rw [Array.getElem?_append_left (by simpa using hj2)]
      simpa using hj

theorem wpList_pushW {P : Program} (w : World) {ops : Array Oper} {rest : List Oper} {o : Oper} {a : Act} {Q : Exit → Act → World → Prop} (hgd : o.guard = none) (s x : Operand) (t : TypeId)
    (ho : o.op = .call { callee := .builtin .append, args := #[s, x], argTypes := #[t, t] })
    (base : Nat) (e : TypeId) (i : TypeInfo) (z : Value) (bytes : Nat) (ht : P.underlying t = some (.slice e)) (hi : P.info? e = some i) (hz : i.zero = some z)
    (hsize : i.size = 1) (hby : i.bytes = bytes) (hzs : z.cells.size = 1) (ao : Addr) (n cap : Nat) (xs : List Value) (hs : a.eval s = .slice (some ao) n cap) (hown : ownsWin w base e ao n cap xs)
    (u : Value) (g c : Nat) (hx : a.eval x = .slice (some ⟨g, 0, none⟩) 1 c) (hu : w.cell? ⟨g, 0, none⟩ = some u) (h1 : u.oneCell' = true) (h63 : n + 1 ≤ maxLen) (hbytes : (n + 1) * bytes ≤ 140737488355328) (hbase : base ≤ w.heap.size)
    (h : ∀ ao' cap' w', ownsWin w' base e ao' (n + 1) cap' (xs ++ [u]) → w.grownBy w' (some ao.block) → (ao' = ao ∨ w.heap.size ≤ ao'.block) → wpList P ops Q rest (a.put o.dst (.slice (some ao') (n + 1) cap')) w') : wpList P ops Q (o :: rest) a w := by
  refine wpList_plain hgd fun K hK' => ?_
  obtain ⟨ao', cap', w', hrun, r1, r2, r3⟩ := run_pushW (P := P) w base t o.type e i z bytes ht hi hz hsize hby hzs ao n cap xs hown u g c hu h1 h63 hbytes hbase
  unfold Oper.wp
  simp [execOp, ho, resolve, invoke, builtin, hs, hx, hrun, Result.andThen]
  exact hK' _ _ (h ao' cap' w' r1 r2 r3)

end Go.Proofs.Ytkbgkkempooplaa

/-
  The fewest steps from a room to all others: the program's answer. (Walk.)
-/
namespace Go.Proofs.Ytkbgkkempooplaa
open Go.RowKit

theorem lnk_adj (f : Nat → Nat → Nat) (n y : Nat) : (lnk n (f y)).map (·.1) = adjF f n y := by
  unfold lnk lnkL adjF
  rw [List.map_map]
  exact List.map_id _
theorem lnk_adj_len (f : Nat → Nat → Nat) (n y : Nat) : (adjF f n y).length = (lnk n (f y)).length := by rw [← lnk_adj, List.length_map]
theorem lnk_adj_at (f : Nat → Nat → Nat) (n y k : Nat) (h : k < (lnk n (f y)).length) : ((lnk n (f y)).getD k (0, 0)).1 = (adjF f n y).getD k 0 := by
  rw [← lnk_adj, List.getD_eq_getElem?_getD, List.getD_eq_getElem?_getD, List.getElem?_map, List.getElem?_eq_getElem h]; rfl

/-- rooms as they stand in a row: where their cells begin -/
def ptrsQ (Q : Nat) (L : List Nat) : List Value := L.map fun x => .pointer (some ⟨Q + x, 0, none⟩)
theorem ptrsQ_snoc (Q : Nat) (L : List Nat) (x : Nat) : ptrsQ Q (L ++ [x]) = ptrsQ Q L ++ [.pointer (some ⟨Q + x, 0, none⟩)] := by simp [ptrsQ]
theorem ptrsQ_drop (Q : Nat) (L : List Nat) {i : Nat} (h : i < L.length) : ptrsQ Q (L.drop i) = .pointer (some ⟨Q + L.getD i 0, 0, none⟩) :: ptrsQ Q (L.drop (i + 1)) := by
  rw [List.drop_eq_getElem_cons h, List.getD_eq_getElem?_getD, List.getElem?_eq_getElem h]; rfl

/-- what lies in memory while rooms are reached -/
structure StI (w : World) (Q R : Nat) (s : Bf) (i : Nat) (ra : Addr) (rc : Nat) (wr : World) : Prop where
  out : HeldB wr (R + 1) 46 (nineC fun b => s.D b - 1)
  res : HeldB wr R 46 (nineC fun _ => 0)
  q : ownsWin wr w.heap.size 44 ra (s.q.length - i) rc (ptrsQ Q (s.q.drop i))
  ne1 : ra.block ≠ R + 1
  ne2 : ra.block ≠ R
  below : Below w.heap.size w wr
theorem StI.step {w wr w' : World} {Q R : Nat} {s : Bf} {i : Nat} {ra : Addr} {rc : Nat} (h : StI w Q R s i ra rc wr) (hb : Below wr.heap.size wr w') : StI w Q R s i ra rc w' :=
  ⟨h.out.below hb, h.res.below hb, h.q.below hb, h.ne1, h.ne2, below_step h.below h.below.size hb⟩

theorem Try.sizeCha : (Try.prog.info? 51).map (·.size) = some 2 := by kernel_rfl
/-- whether two rooms' cells are not the same ones -/
theorem run_neq_cha (w : World) {a b : Nat} {A B : Array Value} (ha : HeldB w a 51 A) (hb : HeldB w b 51 B) :
    (binOp .neq 44 (.pointer (some ⟨a, 0, none⟩)) (.pointer (some ⟨b, 0, none⟩))).run Try.prog w = .ok (.bool (decide (a ≠ b))) w := by
  obtain ⟨j, hj, hj2⟩ : ∃ j, Try.prog.info? 51 = some j ∧ j.size = 2 := by
    have h := Try.sizeCha
    cases hh : Try.prog.info? 51 with
    | none => rw [hh] at h; cases h
    | some i => rw [hh] at h; exact ⟨i, rfl, by simpa using h⟩
  by_cases hab : a = b
  · subst hab
    rw [Lib.run_neq_ptr_same w _ Try.underlying44 hj]
    simp
  · have hne : (⟨a, 0, none⟩ : Addr) ≠ ⟨b, 0, none⟩ := fun he => hab (by simp at he)
    have h : ∀ d : Nat, (Op.equalIn (d + 1) 44 (.pointer (some ⟨a, 0, none⟩)) (.pointer (some ⟨b, 0, none⟩))).run Try.prog w = .ok false w := fun d => by
      simp [Op.equalIn, run_underlying Try.underlying44, sizeOf, typeInfo, hj, hj2, run_sameAddr_other w hne ha hb]
    simp only [binOp]
    simp [Op.equal, Op.maxDepth, h 9999, hab]
theorem guard_cha (op : BinOp) (x y : Operand) (a b : Addr) (w : World) : (eqGuard op 44 x y (.pointer (some a)) (.pointer (some b))).run Try.prog w = .ok () w := by
  unfold eqGuard
  cases op <;> first | (simp; done) | simp [Try.underlying44]

set_option maxRecDepth 100000 in
set_option maxHeartbeats 8000000 in
theorem steps_any (Q n a : Nat) (f : Nat → Nat → Nat) (K : Nat → Prop) (so : Nat → Option Addr) (sc : Nat → Nat) (w : World) (hn : n ≤ 9) (ha : a < n) (h : ChB w Q n f K so sc) :
    Calls Try.prog 30 #[.pointer (some ⟨Q + a, 0, none⟩)] w
      fun e w' => e = .returned (.agg (nineC fun b => (bfsB (adjF f n) a n).D b - 1)) ∧ Below w.heap.size w w' := by
  obtain ⟨ip, hpi0, hpz, hp1, hp2⟩ := info_parts Try.infoPtr
  have HZ := Lib.hid zero_nineC
  have HI := Lib.hid (bfsB_inv (adj := adjF f n) ha (fun y => adjF_lt f n y))
  have H1 := Lib.hid (bfsB_one (adj := adjF f n) ha (fun y => adjF_lt f n y))
  have HE := Lib.hid (fun i (hi : i ≤ n) h => bfsB_end (adj := adjF f n) (a := a) hi h)
  have HS := Lib.hid (fun i (h : i < (bfsB (adjF f n) a i).q.length) => show bfsB (adjF f n) a (i + 1) = tchsB _ _ _ from if_pos h)
  have HAL := Lib.hid (fun y => adjF_lt f n y)
  have HAN := Lib.hid (fun y => adjF_len f n y)
  have HLA := Lib.hid (fun y => lnk_adj_len f n y)
  have HLG := Lib.hid (fun y k hk => lnk_adj_at f n y k hk)
  have H0 := Lib.hid (show bfsB (adjF f n) a 0 = ⟨fun y => if y = a then 1 else 0, [a]⟩ from rfl)
  have HST := Lib.hid (fun i => bfsB_start (adj := adjF f n) a i)
  have HC := Lib.hid h
  have HRM := Lib.hid (fun y => h.rms y)
  generalize hadj : adjF f n = adj at *
  clear hadj h
  have hR1 := HeldB.new w 46 (nineC fun _ => 0)
  have hN1 := HeldB.new (w.alloc (.cells (nineC fun _ => 0) 46)) 46 (nineC fun _ => 0)
  have hq1 := owns_lit ((w.alloc (.cells (nineC fun _ => 0) 46)).alloc (.cells (nineC fun _ => 0) 46)) w.heap.size 44 [.pointer (some ⟨Q + a, 0, none⟩)] (by simp; omega) (by unfold maxLen; simp)
  rw [World.size_alloc] at hN1
  rw [World.size_alloc, World.size_alloc] at hq1
  have hst0 : StI w Q w.heap.size (bfsB adj a 0) 0 ⟨w.heap.size + 1 + 1, 0, none⟩ 1 (((w.alloc (.cells (nineC fun _ => 0) 46)).alloc (.cells (nineC fun _ => 0) 46)).alloc (.cells #[.pointer (some ⟨Q + a, 0, none⟩)] 44)) := by
    rw [H0.out]
    refine ⟨(hN1.alloc _).eq (nineC_same fun b _ => ?_), (hR1.alloc _).alloc _, ownsWin.of hq1, by simp, by simp; omega, ?_⟩
    · show 0 = (if b = a then 1 else 0) - 1
      split <;> rfl
    · exact (((Below.refl _ _).alloc (Nat.le_refl _) _).alloc (by simp) _).alloc (by simp; omega) _
  have HST0 := Lib.hid hst0
  clear hst0 hR1 hN1 hq1
  generalize hZe : nineC (fun _ => 0) = Z at *
  have HZe := Lib.hid hZe
  clear hZe
  go_enter Try.func30, Try.ntmps30
  go_wp2_with (first
    | (refine wpList_alloc_zero rfl 46 rfl Z HZ.out ?_))
  have hst0 := HST0.out
  have HL1 := Lib.hid (show (bfsB adj a 0).q.length = 1 by rw [H0.out]; rfl)
  have hRw := Nat.le_refl w.heap.size
  clear HST0 H0
  obtain ⟨R, hR⟩ : ∃ R, R = w.heap.size := ⟨_, rfl⟩
  have hRw : w.heap.size ≤ R := by omega
  have HRR := Lib.hid hR
  have hst1 : StI w Q R (bfsB adj a 0) 0 ⟨R + 1 + 1, 0, none⟩ 1 (((w.alloc (.cells Z 46)).alloc (.cells Z 46)).alloc (.cells #[.pointer (some ⟨Q + a, 0, none⟩)] 44)) := by rw [hR]; exact hst0
  rw [← hR]
  clear hst0 hR
  generalize ((w.alloc (.cells Z 46)).alloc (.cells Z 46)).alloc (.cells #[.pointer (some ⟨Q + a, 0, none⟩)] 44) = W0 at *
  go_loopg [4] n (fun gk vr wr => ∃ (i : Nat) (ra : Addr) (rc : Nat), i + gk = n ∧ i ≤ (bfsB adj a i).q.length ∧ vr = .slice (some ra) ((bfsB adj a i).q.length - i) rc ∧ StI w Q R (bfsB adj a i) i ra rc wr)
  case atStart => exact ⟨0, _, _, by omega, Nat.zero_le _, by rw [HL1.out], hst1⟩
  case round =>
    clear hst1
    obtain ⟨i, ra, rc, hgk, hiq, rfl, hst⟩ := hrel
    have hI := HI.out i
    have hqn := hI.few
    by_cases hlt : i < (bfsB adj a i).q.length
    · have HSS := Lib.hid (HS.out i hlt)
      have HLN := Lib.hid (show i + 1 ≤ (bfsB adj a (i + 1)).q.length by
        rw [HSS.out]; exact Nat.le_trans hlt (BfG.tchs _ _ _).len)
      have hyq : (bfsB adj a i).q.getD i 0 ∈ (bfsB adj a i).q := getD_mem 0 hlt
      have hyn := hI.lt _ hyq
      have HAT := Lib.hid (fun t (h : BfG (bfsB adj a i) t) => h.at hlt)
      have HDR := Lib.hid (ptrsQ_drop Q (bfsB adj a i).q hlt)
      have HYP := Lib.hid (hI.pos _ hyq)
      have H1S := Lib.hid (H1.out i)
      have HSA := Lib.hid (HST.out i)
      generalize hs0 : bfsB adj a i = s at *
      generalize hy0 : s.q.getD i 0 = y at *
      have hq0 := hst.q
      rw [HDR.out] at hq0
      have hcy := hq0.cells 0 _ rfl
      obtain ⟨g, off, rfl⟩ : ∃ g off, ra = ⟨g, off, none⟩ := by obtain ⟨g, off, _, he, _⟩ := hq0; exact ⟨g, off, he⟩
      have hcy0 : wr.cell? ⟨g, off, none⟩ = some (.pointer (some ⟨Q + y, 0, none⟩)) := by
        obtain ⟨b, o, he, hc⟩ := hcy
        simp only [Option.some.injEq, Addr.mk.injEq, and_true] at he
        obtain ⟨rfl, rfl⟩ := he
        exact hc
      have hcl : wr.cell? ⟨Q + y, 1, none⟩ = some (.slice (so y) (lnk n (f y)).length (sc y)) := ((HC.out.below hst.below).1 y hyn).cell 1
      obtain ⟨m, hm⟩ : ∃ m, s.q.length - i = m + 1 := ⟨s.q.length - i - 1, by omega⟩
      rw [hm] at hq0
      have hq1 := hq0.tailA
      have hlm : s.q.length - (i + 1) = m := by omega
      have hm9 : m ≤ 9 := by omega
      have hst5 : StI w Q R s (i + 1) (tailA ⟨g, off, none⟩ rc) (rc - 1) wr := ⟨hst.out, hst.res, by rw [hlm]; exact hq1, by rw [tailA_block]; exact hst.ne1, by rw [tailA_block]; exact hst.ne2, hst.below⟩
      have hmp : ((0 : Int) < ((m + 1 : Nat) : Int)) := by omega
      have HM := Lib.hid hm
      have HLM := Lib.hid hlm
      have HHI := Lib.hid (And.intro hI (And.intro hqn (And.intro hlt hiq)))
      have HY2 := Lib.hid hyq
      rw [hm]
      have hcw := HC.out.2.1 y hyn
      have HRW := Lib.hid (ownsK_cells hcw)
      have HRY := Lib.hid (HRM.out y)
      have HLX := Lib.hid (fun k hk => (lnk_mem (getD_mem (0, 0) hk : (lnk n (f y)).getD k (0, 0) ∈ lnk n (f y))).1)
      have hll := lnk_len n (f y)
      have HLK := Lib.hid (fun k hk => HLG.out y k hk)
      have HAL2 := Lib.hid (HLA.out y)
      have HBG := Lib.hid (fun (wm : World) (hb : Below w.heap.size w wm) x (hx : x < n) => ((HC.out.below hb).1 x hx).cell 0)
      have hSL := owns_lt hcw
      have hbl := hst.below.size
      have HSB := Lib.hid (show ∀ b, so y = some b → b.block < w.heap.size from fun b hb => (hSL b hb).2)
      clear hst hq0 hq1 hcy hm hlm hI hs0 hy0 hyq hqn hlt hiq hcw hSL hbl
      generalize hmm : m + 1 = m1 at *
      have hmm1 : m1 ≤ 10 := by omega
      have hm1p : 0 < m1 := by omega
      have hm1q : 1 ≤ m1 := by omega
      have HMM := Lib.hid hmm
      clear hmm
      generalize so y = sy at *
      generalize sc y = cy at *
      generalize hLy : lnk n (f y) = L at *
      have HLy := Lib.hid hLy
      clear hLy
      generalize hAy : adj y = A at *
      have HAy := Lib.hid hAy
      clear hAy
      go_wp2_with (refine wpList_tail rfl 41 _ rfl _ _ _ rfl hm1q Try.underlying41 (by kernel_rfl) ?_)
      have HTA := Lib.hid (tailA_block ⟨g, off, none⟩ rc)
      generalize tailA ⟨g, off, none⟩ rc = rb at *
      generalize hrc1 : rc - 1 = rc1 at *
      clear hrc1
      obtain ⟨m', hmm'⟩ : ∃ m', m1 - 1 = m' := ⟨_, rfl⟩
      have HM1 := Lib.hid (show m' = m by have := HMM.out; omega)
      rw [hmm']
      have hm1e := HM1.out
      subst hm1e
      clear hmm' hmp hmm1 hm1p hm1q hcy0 hcl HTA
      have hst6 : StI w Q R (tchsB y s (A.take 0)) (i + 1) rb rc1 wr := hst5
      have HL6 := Lib.hid (show (tchsB y s (A.take 0)).q.length - (i + 1) = m' from HLM.out)
      have HTK := Lib.hid (fun k (hk : k < A.length) => show tchsB y s (A.take (k + 1)) = tchB y (tchsB y s (A.take k)) (A.getD k 0) by rw [take_succ_getD A k 0 hk, tchsB_snoc])
      have HXA := Lib.hid (fun x (hx : x ∈ A) => HAL.out y x (by rw [HAy.out]; exact hx))
      have HTI := Lib.hid (fun k => HHI.out.1.tchs (y := y) (A.take k) (fun x hx => HXA.out x (List.mem_of_mem_take hx)))
      have HTG := Lib.hid (fun k => BfG.tchs y (A.take k) s)
      have HT1 := Lib.hid (fun k => tchsB_one (y := y) (A.take k) H1S.out HYP.out)
      have HTL := Lib.hid (show tchsB y s (A.take L.length) = tchsB y s A by rw [← HAL2.out, List.take_length])
      clear hst5
      go_loopw [4, 23] (fun vr vk wm => ∃ (k : Nat) (ra : Addr) (rc : Nat), k ≤ L.length ∧ vk = .int .i64 k ∧ vr = .slice (some ra) ((tchsB y s (A.take k)).q.length - (i + 1)) rc ∧ StI w Q R (tchsB y s (A.take k)) (i + 1) ra rc wm) (fun _ vk _ => L.length - (intOf vk).toNat)
      case atStart => exact ⟨0, _, _, Nat.zero_le _, rfl, by rw [HL6.out], hst6⟩
      case round =>
        clear hst6
        obtain ⟨k, ra, rc, hk, rfl, rfl, hst⟩ := hrel
        by_cases hkl : k < L.length
        · have hkl' : decide ((k : Int) < (L.length : Int)) = true := by rw [decide_eq_true_eq]; omega
          have hJ := HTI.out k
          have hG := HTG.out k
          have hO := HT1.out k
          have HTS := Lib.hid (HTK.out k (by rw [HAL2.out]; exact hkl))
          have HTN := Lib.hid (HTI.out (k + 1)).few
          obtain ⟨bb, off, rfl, hrg⟩ := lnk_range (HRW.out.below hst.below) hkl
          have hxn := HLX.out k hkl
          have HKX := Lib.hid (HLK.out k hkl)
          obtain ⟨X, hX⟩ : ∃ X, L.getD k (0, 0) = X := ⟨_, rfl⟩
          rw [hX] at hrg hxn HKX
          clear hX
          obtain ⟨x, mx⟩ := X
          simp only at hxn HKX
          rw [← HKX.out] at HTS
          rw [HTS.out] at HTN
          have hcx := (HBG.out _ hst.below x hxn).trans rfl
          generalize tchsB y s (A.take k) = t at *
          have hbX := HeldB.new wr 53 (lnkC1 Q (x, mx)).toArray
          have c0 : (wr.alloc (.cells (lnkC1 Q (x, mx)).toArray 53)).cell? ⟨wr.heap.size, 0, none⟩ = some (.pointer (some ⟨Q + x, 0, none⟩)) := (hbX.cell 0).trans rfl
          have hst8 := hst.step (below_alloc wr (.cells (lnkC1 Q (x, mx)).toArray 53))
          have cx : (wr.alloc (.cells (lnkC1 Q (x, mx)).toArray 53)).cell? ⟨Q + x, 0, none⟩ = some (.int .i64 (x : Nat)) := (HBG.out _ hst8.below x hxn).trans rfl
          have cs : (wr.alloc (.cells (lnkC1 Q (x, mx)).toArray 53)).cell? ⟨R + 1, x, none⟩ = some (.int .i64 ((t.D x - 1 : Nat) : Int)) := (hst8.out.cell x).trans (nineC_at (by omega))
          have hzl : (Try.prog.info? 53).map (·.size) = some (lnkC1 Q (x, mx)).toArray.size := by kernel_rfl
          have HZL := Lib.hid hzl
          have HON := Lib.hid (show (lnkC1 Q (x, mx)).toArray.all (·.oneCell') = true by rw [Array.all_eq_true_iff_forall_mem]; intro v hv; exact lnk_one Q _ v (by simpa using hv))
          have HRG := Lib.hid hrg
          have hx9 : (x : Int) < 9 := by omega
          have HLB := Lib.hid (below_alloc wr (.cells (lnkC1 Q (x, mx)).toArray 53)).size
          have hbX2 := Lib.hid hbX
          have HRB := Lib.hid (And.intro hst.out.lt hst.res.lt)
          have hgn := guard_cha .neq (.tmp 28) (.tmp 29) ⟨Q + x, 0, none⟩ ⟨Q + a, 0, none⟩ (wr.alloc (.cells (lnkC1 Q (x, mx)).toArray 53))
          have hrn := run_neq_cha _ ((HC.out.below hst8.below).1 x hxn) ((HC.out.below hst8.below).1 a ha)
          clear hbX hst hzl hrg hcx
          by_cases hxa : x = a
          · have hD : t.D x ≠ 0 := by
              rw [hxa, hG.D a (by rw [HSA.out]; decide), HSA.out]; decide
            rw [tchB_old hD] at HTS
            rw [decide_eq_false (show ¬ (Q + x ≠ Q + a) by omega)] at hrn
            have HXA2 := Lib.hid hxa
            clear hxa
            go_upto_region 9 with (first
              | (refine wpList_load_mid rfl 53 _ rfl bb (off + k * 2) rfl (lnkC1 Q (x, mx)) _ HRG.out Try.underlying53 rfl Try.sizeLnk ?_)
              | (refine wpList_store_new rfl 53 _ _ rfl _ #[.pointer none, .int .i64 0] (lnkC1 Q (x, mx)).toArray rfl rfl rfl HZL.out rfl HON.out ?_))
            go_wp2
            go_roundw
            case rel => exact ⟨k + 1, ra, rc, by omega, by go_num, by rw [HTS.out], by rw [HTS.out]; exact hst8⟩
            case measure => simp [intOf]; omega
          · rw [decide_eq_true (show Q + x ≠ Q + a by omega)] at hrn
            by_cases hD : t.D x = 0
            · have HTN2 := HTN.out
              rw [tchB_new hD] at HTS HTN2
              rw [hD] at cs
              have hpy : 0 < t.D y := by rw [hG.D y HYP.out]; exact HYP.out
              have csy := (hst8.out.cell y).trans (nineC_at (by omega))
              have cy0 : (wr.alloc (.cells (lnkC1 Q (x, mx)).toArray 53)).cell? ⟨Q + y, 0, none⟩ = some (.int .i64 (y : Nat)) := (HBG.out _ hst8.below y hyn).trans rfl
              have hly := hJ.le y
              have hfew := hJ.few
              obtain ⟨v, hv⟩ : ∃ v, t.D y = v + 1 := ⟨t.D y - 1, by omega⟩
              rw [hv] at csy hly HTS
              rw [Nat.add_sub_cancel] at csy
              have hq9 : t.q.length + 1 ≤ 9 := by rw [List.length_append] at HTN2; simp at HTN2; omega
              have hv9 : v ≤ 9 := by omega
              have hfz := hst8.out.frozen x
              have hRV : R + 1 < wr.heap.size := by
                have := hst8.res.lt
                have h2 := HeldB.lt (hst8.out)
                have h3 : (wr.alloc (.cells (lnkC1 Q (x, mx)).toArray 53)).heap.size = wr.heap.size + 1 := by simp
                have h4 := HRB.out
                omega
              have hqi : i + 1 ≤ t.q.length := by have := hG.len; have := HHI.out.2.2.1; omega
              have HW9 := Lib.hid (show StI w Q R ⟨updD t.D x (v + 1 + 1), t.q⟩ (i + 1) ra rc ((wr.alloc (.cells (lnkC1 Q (x, mx)).toArray 53)).setCell ⟨R + 1, x, none⟩ (.int .i64 ((v : Int) + 1))).drew from
                ⟨by
                  have h1 := (hst8.out.set x (.int .i64 ((v + 1 : Nat) : Int))).eq (nineC_put _ (by omega) (v + 1))
                  refine HeldB.eq (HeldB.drew (show HeldB _ (R + 1) _ _ from h1)) (nineC_same fun b _ => ?_)
                  show (if b = x then v + 1 else t.D b - 1) = updD t.D x (v + 1 + 1) b - 1
                  unfold updD
                  split <;> rfl, (hst8.res.other (a := ⟨R + 1, x, none⟩) (by show R ≠ R + 1; omega) _).drew,
                 hst8.q.kept (Below.heap_setCell _ ⟨R + 1, x, none⟩ _ _ hst8.ne1), hst8.ne1, hst8.ne2, (hst8.below.setCell (p := ⟨R + 1, x, none⟩) (by show w.heap.size ≤ R + 1; omega) _).trans (below_drewN _ _ 1)⟩)
              have HC0 := Lib.hid (show ((wr.alloc (.cells (lnkC1 Q (x, mx)).toArray 53)).setCell ⟨R + 1, x, none⟩ (.int .i64 ((v : Int) + 1))).drew.cell? ⟨wr.heap.size, 0, none⟩ = some (.pointer (some ⟨Q + x, 0, none⟩)) from by
                have := (hbX2.out.other (a := ⟨R + 1, x, none⟩) (by show wr.heap.size ≠ R + 1; omega) (.int .i64 ((v : Int) + 1))).drew
                exact (this.cell 0).trans rfl)
              have hx6 : (x : Int) < (n : Int) := by omega
              have hy9 : (y : Int) < 9 := by omega
              clear hxa hv hly hD hpy HTN2
              go_upto_region 9 with (first
                | (refine wpList_load_mid rfl 53 _ rfl bb (off + k * 2) rfl (lnkC1 Q (x, mx)) _ HRG.out Try.underlying53 rfl Try.sizeLnk ?_)
                | (refine wpList_store_new rfl 53 _ _ rfl _ #[.pointer none, .int .i64 0] (lnkC1 Q (x, mx)).toArray rfl rfl rfl HZL.out rfl HON.out ?_))
              generalize wr.alloc (.cells (lnkC1 Q (x, mx)).toArray 53) = W8 at *
              generalize wr.heap.size = V at *
              go_wp2
              go_region
              have hs9 := HW9.out
              have hc9 := HC0.out
              clear HW9 HC0 c0 cx cs csy cy0 hgn hrn hfz hst8 hbX2 HRG HLB
              generalize (W8.setCell ⟨R + 1, x, none⟩ (.int .i64 ((v : Int) + 1))).drew = W9 at *
              obtain ⟨m2, hm2⟩ : ∃ m2, t.q.length - (i + 1) = m2 := ⟨_, rfl⟩
              have hown := hs9.q
              have hown' : ownsWin W9 w.heap.size 44 ra m2 rc (ptrsQ Q (t.q.drop (i + 1))) := by rw [← hm2]; exact hown
              rw [hm2]
              have hm9 : m2 + 1 ≤ 9 := by omega
              have HM2 := Lib.hid hm2
              have hb1' : m2 + 1 ≤ maxLen := by unfold maxLen; omega
              have hb2' : (m2 + 1) * 8 ≤ 140737488355328 := by omega
              have hbw := hs9.below.size
              have hown2 := hown'.alloc (.cells #[.pointer (some ⟨Q + x, 0, none⟩)] 44)
              have HS9 := Lib.hid hs9
              clear hm2 hown hown' hs9
              go_wp2_with (at_builtin; refine wpList_pushW _ rfl (.tmp 54) (.tmp 57) 41 rfl w.heap.size 44 ip (.pointer none) 8 Try.underlying41 hpi0 hpz hp1 hp2 rfl ra m2 rc _ rfl hown2 _ _ _ rfl (cell_new _ _ _) rfl hb1' hb2' (by simp; omega) ?_; intro ra2 rc2 w4 hrow2 hg2 hnew2)
              have hne1 := HS9.out.ne1
              have hne2 := HS9.out.ne2
              have hrl := (HS9.out.q).lt
              have hR9 := HS9.out.out.lt
              have hz := hg2.size
              rw [World.size_alloc] at hz
              rw [World.size_alloc] at hnew2
              have f1 := (HS9.out.out.alloc _).kept hg2 (by simp only [ne_eq, Option.some.injEq]; omega)
              have f2 := (HS9.out.res.alloc _).kept hg2 (by simp only [ne_eq, Option.some.injEq]; omega)
              have f3 : ra2.block ≠ R + 1 ∧ ra2.block ≠ R := by
                rcases hnew2 with rfl | h'
                · exact ⟨hne1, hne2⟩
                · exact ⟨by omega, by omega⟩
              have f4 := (HS9.out.below.alloc hbw _).trans (below_of_grownBy hg2 (by rw [World.size_alloc]; omega) (fun k hk => by simp only [Option.some.injEq] at hk; omega))
              rw [← ptrsQ_snoc, ← List.drop_append_of_le_length hqi] at hrow2
              have hlen : (t.q ++ [x]).length - (i + 1) = m2 + 1 := by have := HM2.out; rw [List.length_append]; simp; omega
              have f5 : StI w Q R (tchsB y s (A.take (k + 1))) (i + 1) ra2 rc2 w4 := by
                rw [HTS.out]
                exact ⟨f1, f2, by rw [hlen]; exact hrow2, f3.1, f3.2, f4⟩
              have HLL := Lib.hid (show (tchsB y s (A.take (k + 1))).q.length - (i + 1) = m2 + 1 by rw [HTS.out]; exact hlen)
              clear hrow2 f1 f2 f3 f4 hg2 hnew2 HS9 hown2 hlen
              go_roundw
              case rel => exact ⟨k + 1, ra2, rc2, by omega, by go_num, by rw [HLL.out], f5⟩
              case measure => simp [intOf]; omega
            · rw [tchB_old hD] at HTS
              obtain ⟨v, hv⟩ : ∃ v, t.D x - 1 = v + 1 := by
                have h1 : t.D x ≠ 1 := fun h1 => hxa (hO x h1)
                exact ⟨t.D x - 2, by omega⟩
              rw [hv] at cs
              have hle := hJ.le x
              have hfew := hJ.few
              have hv9 : v + 1 ≤ 9 := by omega
              clear hxa hv hle hfew hD
              go_upto_region 9 with (first
                | (refine wpList_load_mid rfl 53 _ rfl bb (off + k * 2) rfl (lnkC1 Q (x, mx)) _ HRG.out Try.underlying53 rfl Try.sizeLnk ?_)
                | (refine wpList_store_new rfl 53 _ _ rfl _ #[.pointer none, .int .i64 0] (lnkC1 Q (x, mx)).toArray rfl rfl rfl HZL.out rfl HON.out ?_))
              go_wp2
              go_roundw
              case rel => exact ⟨k + 1, ra, rc, by omega, by go_num, by rw [HTS.out], by rw [HTS.out]; exact hst8⟩
              case measure => simp [intOf]; omega
        · have hkl' : decide ((L.length : Int) < (L.length : Int)) = false := by rw [decide_eq_false_iff_not]; omega
          obtain rfl : k = L.length := by omega
          rw [HTL.out, ← HSS.out] at hst
          have HQL := Lib.hid (show (tchsB y s (A.take L.length)).q.length - (i + 1) = (bfsB adj a (i + 1)).q.length - (i + 1) by rw [HTL.out, HSS.out])
          have HGK := Lib.hid (show 0 < gk by have := HHI.out; omega)
          go_wp2
          go_roundg (gk - 1)
          case measure => have := HGK.out; omega
          case rel => exact ⟨i + 1, ra, rc, by have := HGK.out; omega, HLN.out, by rw [HQL.out], hst⟩
    · have hqe : (bfsB adj a i).q.length - i = 0 := by omega
      have hin : i ≤ n := by omega
      have hE := HE.out i hin (by omega)
      rw [hqe]
      have hres := hst.res
      have hout := hst.out
      have hbl := hst.below
      have hres2 : HeldB wr R 46 Z := by rw [← HZe.out]; exact hres
      have HO2 := Lib.hid (show HeldB wr (R + 1) 46 (nineC fun b => (bfsB adj a n).D b - 1) by rw [hE]; exact hout)
      clear hst hout hres hqe hE
      have hN9 : (nineC fun b => (bfsB adj a n).D b - 1).size = 9 := nineC_size _
      have hN1 : (nineC fun b => (bfsB adj a n).D b - 1).all (·.oneCell') = true := by
        unfold nineC; rw [Array.all_eq_true_iff_forall_mem]; intro v hv
        simp at hv; obtain ⟨_, _, rfl⟩ := hv; rfl
      have hZ9 : Z.size = 9 := by rw [← HZe.out]; exact nineC_size _
      generalize hNe : (nineC fun b => (bfsB adj a n).D b - 1) = N at *
      have HNE := Lib.hid hNe
      clear hNe
      have HSN := Lib.hid (show (Try.prog.info? 46).map (·.size) = some N.size by rw [hN9]; kernel_rfl)
      have HZN := Lib.hid (show Z.size = N.size by rw [hZ9, hN9])
      have HN1 := Lib.hid hN1
      clear hN1 hN9 hZ9
      go_wp2_with (first
        | (refine wpList_load_row rfl 46 _ rfl (R + 1) rfl 46 N (0, 0) _ HO2.out Try.underlying46 rfl HSN.out ?_)
        | (refine wpList_store_row rfl 46 _ _ rfl R N rfl rfl 46 Z hres2 HSN.out HZN.out HN1.out ?_))
      exact bodyPost_ret (v := .agg N) (results_cell_row Try.results30 _ _ R 46 N (0, 0) _ rfl (hres2.setRow N) Try.underlying46 rfl HSN.out) rfl ⟨by rw [HNE.out], below_setRowB hbl hRw _⟩
end Go.Proofs.Ytkbgkkempooplaa

/-
  The fewest steps from one room to another: both answers. (Walks.)
-/
namespace Go.Proofs.Ytkbgkkempooplaa
open Go.RowKit

theorem adjF_nbF {p : List ByteArray} (h : planB p = true) : adjF (nbF p) (gridR p) = adjF (bsF p) (gridR p) := by
  funext y
  unfold adjF
  exact List.filter_congr fun b _ => by rw [nbF_bes h]; rfl
theorem adjF_mem {p : List ByteArray} {n x y : Nat} : x ∈ adjF (bsF p) n y ↔ x < n ∧ 0 < besN p (y : Int) (x : Int) := by
  unfold adjF bsF; simp
/-- one more than the steps, by rooms -/
def dstP (p : List ByteArray) (a b : Nat) : Nat := (bfsB (adjF (bsF p) (gridR p)) a (gridR p)).D b
theorem dstP_pos {p : List ByteArray} (h : planB p = true) {a b : Nat} (ha : a < gridR p) (hb : b < gridR p) : 0 < dstP p a b :=
  rooms_conn h (S := fun r => 0 < dstP p a r) (fun x y hx hy hxy hp => bfsB_closed ha (fun y => adjF_lt (bsF p) (gridR p) y) hp (adjF_mem.2 ⟨hy, hxy⟩)) ha (by show 0 < (bfsB _ _ _).D a; rw [bfsB_start]; decide) b hb
theorem dstP_le {p : List ByteArray} {a b : Nat} (ha : a < gridR p) : dstP p a b ≤ gridR p := by
  have hI := bfsB_inv (adj := adjF (bsF p) (gridR p)) ha (fun y => adjF_lt (bsF p) (gridR p) y) (gridR p)
  exact Nat.le_trans (hI.le b) hI.few

def wayOk (p : List ByteArray) (a b : Int) : Bool := givenB p a && givenB p b
def wayN (p : List ByteArray) (a b : Int) : Nat := if wayOk p a b then dstP p a.toNat b.toNat - 1 else 0
theorem wayN_le (p : List ByteArray) (a b : Int) : wayN p a b ≤ 9 := by
  unfold wayN
  split
  · rename_i h
    unfold wayOk at h
    rw [Bool.and_eq_true, given_isRm, given_isRm, Bool.and_eq_true, Bool.and_eq_true, isRm_iff, isRm_iff] at h
    have h9 := (planP_of h.1.1).few
    have := dstP_le (p := p) (a := a.toNat) (b := b.toNat) (by omega)
    omega
  · omega

set_option maxRecDepth 100000 in
set_option maxHeartbeats 1000000 in
theorem specNearWay_any (ao : Option Addr) (cap : Nat) (p : List ByteArray) (a b : Int) (w : World) (hl : p.length ≤ 1048576) (hs : ∀ s ∈ p, s.size ≤ 1048576) (hc : CellsAt w ao (p.map Value.string)) :
    Calls Try.prog 13 #[.slice ao p.length cap, .int .i64 a, .int .i64 b] w fun e w' => e = .returned (.tuple #[.int .i64 (wayN p a b : Nat), .bool (wayOk p a b)]) ∧ Below w.heap.size w w' := by
  have HA := Lib.hid (fun w c => l1Given_any ao cap p a w hl hs c)
  have HB := Lib.hid (fun w c => l1Given_any ao cap p b w hl hs c)
  cases ha : givenB p a
  · have h0 : wayOk p a b = false := by unfold wayOk; rw [ha]; rfl
    have h1 : wayN p a b = 0 := by unfold wayN; rw [h0]; rfl
    rw [h0, h1]; rw [ha] at HA
    go_enter Try.func13, Try.ntmps13
    go_wp2_with fail
    refine (HA.out _ hc).mono ?_
    rintro e w1 ⟨rfl, hb1⟩
    go_wp2
    go_ret2
    exact ⟨rfl, hb1⟩
  · cases hb : givenB p b
    · have h0 : wayOk p a b = false := by unfold wayOk; rw [ha, hb]; rfl
      have h1 : wayN p a b = 0 := by unfold wayN; rw [h0]; rfl
      rw [h0, h1]; rw [ha] at HA; rw [hb] at HB
      go_enter Try.func13, Try.ntmps13
      go_wp2_with fail
      refine (HA.out _ hc).mono ?_
      rintro e w1 ⟨rfl, hb1⟩
      have c1 := hc.below hb1
      go_wp2_with fail
      refine (HB.out _ c1).mono ?_
      rintro e w2 ⟨rfl, hb2⟩
      go_wp2
      go_ret2
      exact ⟨rfl, below_step hb1 hb1.size hb2⟩
    · have h0 : wayOk p a b = true := by unfold wayOk; rw [ha, hb]; rfl
      have ha2 := ha; have hb2' := hb
      rw [given_isRm, Bool.and_eq_true, isRm_iff] at ha2 hb2'
      have hp := ha2.1
      obtain ⟨a', rfl⟩ : ∃ a' : Nat, a = (a' : Int) := ⟨a.toNat, by omega⟩
      obtain ⟨b', rfl⟩ : ∃ b' : Nat, b = (b' : Int) := ⟨b.toNat, by omega⟩
      have ha' : a' < gridR p := by omega
      have hb' : b' < gridR p := by omega
      have h1 : wayN p a' b' = dstP p a' b' - 1 := by unfold wayN; rw [h0]; rfl
      have HL := Lib.hid (fun w c => l4Steps_any ao cap p a' w hp ha' hl hs c)
      have HPO := Lib.hid (dstP_pos hp ha' hb')
      have HCE := Lib.hid (outB_at (D := (bfsB (adjF (bsF p) (gridR p)) a' (gridR p)).D) hb')
      change Hid (_ = some (Value.int .i64 (((dstP p a' b' : Nat) : Int) - 1))) at HCE
      rw [h0, h1]; rw [ha] at HA; rw [hb] at HB
      have hbi : (b' : Int) < (gridR p : Int) := by omega
      clear h0 h1 ha2 hb2' ha hb
      generalize dstP p a' b' = d at *
      generalize (outB (bfsB (adjF (bsF p) (gridR p)) a' (gridR p)).D (gridR p)).map (Value.int .i64) = O at *
      generalize gridR p = n at *
      go_enter Try.func13, Try.ntmps13
      go_wp2_with fail
      refine (HA.out _ hc).mono ?_
      rintro e w1 ⟨rfl, hb1⟩
      have c1 := hc.below hb1
      go_wp2_with fail
      refine (HB.out _ c1).mono ?_
      rintro e w2 ⟨rfl, hb2⟩
      have c2 := c1.below hb2
      go_wp2_with fail
      refine (HL.out _ c2).mono ?_
      rintro e w3 ⟨ro, rc, rfl, hrow, hb3⟩
      obtain ⟨B, off, rfl, hcell⟩ := (owns_cells hrow) b' _ HCE.out
      have z2 := below_step hb1 hb1.size hb2
      go_wp2
      go_ret2
      have hd := HPO.out
      exact ⟨by rw [show ((d : Nat) : Int) - 1 = ((d - 1 : Nat) : Int) by omega]; rfl, below_step z2 z2.size hb3⟩

theorem run_index9 {C : Array Value} {k : Nat} {v : Value} (hk : k < 9) (hC : C[k]? = some v) (w : World) : (Instr.index 46 (.agg C) (.int .i64 (k : Int))).run Try.prog w = .ok v w := by
  have h0 : (0 : Int) ≤ (k : Int) ∧ (k : Int) < 9 := by omega
  simp [Instr.index, asIntOf, run_underlying Try.underlying46, go_sem, hC, hk]

set_option maxRecDepth 100000 in
set_option maxHeartbeats 2000000 in
theorem implNearWay_any (ao : Option Addr) (cap : Nat) (p : List ByteArray) (a b : Int) (w : World) (hl : p.length ≤ 1048576) (hs : ∀ s ∈ p, s.size ≤ 1048576) (hc : CellsAt w ao (p.map Value.string)) :
    Calls Try.prog 11 #[.slice ao p.length cap, .int .i64 a, .int .i64 b] w fun e w' => e = .returned (.tuple #[.int .i64 (wayN p a b : Nat), .bool (wayOk p a b)]) ∧ Below w.heap.size w w' := by
  have hlit : CellsAt (w.alloc (.cells #[.int .i64 a, .int .i64 b] 3)) (some ⟨w.heap.size, 0, none⟩) ([a, b].map (Value.int .i64)) := CellsAt.alloc_lit w [.int .i64 a, .int .i64 b] 3
  have hcl := hc.below (below_alloc w (.cells #[.int .i64 a, .int .i64 b] 3))
  have hbl := below_alloc w (.cells #[.int .i64 a, .int .i64 b] 3)
  have hask : askB p [a, b] = wayOk p a b := by
    unfold wayOk
    rw [given_isRm, given_isRm]
    unfold askB
    cases planB p
    · rfl
    · simp only [List.any_cons, List.any_nil]
      cases isRm (gridR p) a <;> cases isRm (gridR p) b <;> rfl
  cases hq : askB p [a, b]
  · have h0 : wayOk p a b = false := by rw [← hask, hq]
    have h1 : wayN p a b = 0 := by unfold wayN; rw [h0]; rfl
    have HR := Lib.hid (readChambers_no ao cap p _ 2 [a, b] _ hl hs hcl (by simp) hlit hq)
    rw [h0, h1]
    clear h0 h1 hask hq hlit hcl
    go_enter Try.func11, Try.ntmps11
    go_wp2_with (go_at_call 28; refine (HR.out).mono ?_; rintro e w1 ⟨rfl, hb1⟩)
    go_ret2
    exact ⟨rfl, hbl.trans (hb1.mono (by simp))⟩
  · have HR := Lib.hid (readChambers_yes ao cap p _ 2 [a, b] _ hl hs hcl (by simp) hlit hq)
    have h0 : wayOk p a b = true := by rw [← hask, hq]
    have hq2 := h0
    unfold wayOk at hq2
    rw [Bool.and_eq_true, given_isRm, given_isRm, Bool.and_eq_true, Bool.and_eq_true, isRm_iff, isRm_iff] at hq2
    obtain ⟨⟨hp, ra⟩, ⟨_, rb⟩⟩ := hq2
    have hn9 := (planP_of hp).few
    obtain ⟨a', rfl⟩ : ∃ a' : Nat, a = (a' : Int) := ⟨a.toNat, by omega⟩
    obtain ⟨b', rfl⟩ : ∃ b' : Nat, b = (b' : Int) := ⟨b.toNat, by omega⟩
    have h1 : wayN p a' b' = dstP p a' b' - 1 := by unfold wayN; rw [h0]; rfl
    have ha' : a' < gridR p := by omega
    have hb' : b' < gridR p := by omega
    have HSA := Lib.hid (fun (W : World) (Q : Nat) so sc (h : ChB W Q (gridR p) (nbF p) (fun k => k < Q) so sc) => by have := steps_any Q (gridR p) a' (nbF p) _ so sc W hn9 ha' h; rw [adjF_nbF hp] at this; exact this)
    have hix := run_index9 (C := nineC fun b => (bfsB (adjF (bsF p) (gridR p)) a' (gridR p)).D b - 1) (k := b') (by omega) (nineC_at (by omega))
    change ∀ w, (Instr.index 46 _ _).run Try.prog w = Result.ok (Value.int .i64 ((dstP p a' b' - 1 : Nat) : Int)) w at hix
    rw [h0, h1]
    unfold Linked at HR
    clear h0 h1 hask hlit hcl hn9
    generalize (nineC fun b => (bfsB (adjF (bsF p) (gridR p)) a' (gridR p)).D b - 1) = N at *
    generalize dstP p a' b' - 1 = d at *
    generalize nbF p = f at *
    generalize gridR p = n at *
    go_enter Try.func11, Try.ntmps11
    go_wp2_with (first
      | (go_at_call 28; refine (HR.out).mono ?_; rintro e w1 ⟨Rb, c, Q, rfl, y1, ⟨so, sc, y2⟩, y3, y4, y5⟩; have hpc := ptr_cell y1 ha'; have HAL2 := Lib.hid (HSA.out w1 Q so sc y2); clear y1 y2)
      | (go_at_call 30; refine (HAL2.out).mono ?_; rintro e w2 ⟨rfl, hb2⟩))
    go_ret2
    exact ⟨rfl, below_step (hbl.trans (y5.mono (by simp))) (by have := y5.size; simp at this; omega) hb2⟩

end Go.Proofs.Ytkbgkkempooplaa
