
/-
  Colours so that no two neighbours have one: the first list, the least number. (Plain mathematics.)
-/
import Derived.Test.YtgiikdcjigcnlaaRow

namespace Go.Proofs.Ytgiikdcjigcnlaa
open Go.RowKit

/-- whether a colour fits the room behind those that have one -/
def fitC (near : Nat → Nat → Bool) (C : List Nat) (c : Nat) : Bool := (List.range C.length).all fun b => !(C.getD b 0 == c && near C.length b)
/-- the first list that begins so -/
def colS (near : Nat → Nat → Bool) (many : Nat) : Nat → List Nat → Option (List Nat)
  | 0, C => some C
  | k + 1, C => (List.range many).findSome? fun c => if fitC near C c then colS near many k (C ++ [c]) else none
/-- what comes of a colour for the next room -/
def colF (near : Nat → Nat → Bool) (many k : Nat) (C : List Nat) (c : Nat) : Option (List Nat) := if fitC near C c then colS near many k (C ++ [c]) else none
theorem colS_succ (near : Nat → Nat → Bool) (many k : Nat) (C : List Nat) : colS near many (k + 1) C = (List.range many).findSome? (colF near many k C) := rfl
theorem colF_no {near : Nat → Nat → Bool} {many k : Nat} {C : List Nat} {c : Nat} (h : fitC near C c = false) : colF near many k C c = none := by unfold colF; rw [h]; rfl
theorem colF_yes {near : Nat → Nat → Bool} {many k : Nat} {C : List Nat} {c : Nat} (h : fitC near C c = true) : colF near many k C c = colS near many k (C ++ [c]) := by unfold colF; rw [h]; rfl

theorem fs_none {F : Nat → Option (List Nat)} : ∀ {m : Nat}, (∀ j, j < m → F j = none) → (List.range m).findSome? F = none
  | m, h => by
    rw [List.findSome?_eq_none_iff]
    exact fun x hx => h x (List.mem_range.1 hx)
theorem fs_some {F : Nat → Option (List Nat)} {m c : Nat} {o : List Nat} (h : ∀ j, j < c → F j = none) (hc : c < m) (ho : F c = some o) : (List.range m).findSome? F = some o := by
  obtain ⟨d, rfl⟩ : ∃ d, m = c + 1 + d := ⟨m - c - 1, by omega⟩
  induction d with
  | zero => rw [Nat.add_zero, List.range_succ, List.findSome?_append, fs_none h]; simp [ho]
  | succ d ih =>
    rw [show c + 1 + (d + 1) = (c + 1 + d) + 1 by omega, List.range_succ, List.findSome?_append, ih (by omega)]; rfl

/-- a list of colours that is as asked -/
def ValC (near : Nat → Nat → Bool) (many : Nat) (L : List Nat) : Prop := ∀ a, a < L.length → L.getD a 0 < many ∧ ∀ b, b < a → near a b = true → L.getD a 0 ≠ L.getD b 0

theorem getD_snocL {C : List Nat} {c a : Nat} (h : a < C.length) : (C ++ [c]).getD a 0 = C.getD a 0 := by
  rw [List.getD_eq_getElem?_getD, List.getElem?_append_left h, ← List.getD_eq_getElem?_getD]
theorem getD_snocR (C : List Nat) (c : Nat) : (C ++ [c]).getD C.length 0 = c := by
  rw [List.getD_eq_getElem?_getD, List.getElem?_append_right (Nat.le_refl _), Nat.sub_self]; rfl
theorem fitC_iff {near : Nat → Nat → Bool} {C : List Nat} {c : Nat} : fitC near C c = true ↔ ∀ b, b < C.length → near C.length b = true → C.getD b 0 ≠ c := by
  unfold fitC
  rw [List.all_eq_true]
  constructor
  · intro h b hb hn he
    have := h b (List.mem_range.2 hb)
    rw [hn, he] at this
    simp at this
  · intro h b hb
    have := h b (List.mem_range.1 hb)
    cases hn : near C.length b
    · simp
    · simpa using this hn
theorem ValC.snoc {near : Nat → Nat → Bool} {many : Nat} {C : List Nat} {c : Nat} (h : ValC near many C) (hc : c < many) (hf : fitC near C c = true) : ValC near many (C ++ [c]) := fun a ha => by
  rw [List.length_append] at ha
  rcases Nat.lt_or_ge a C.length with h' | h'
  · rw [getD_snocL h']
    refine ⟨(h a h').1, fun b hb hn => ?_⟩
    rw [getD_snocL (by omega)]
    exact (h a h').2 b hb hn
  · obtain rfl : a = C.length := by simp at ha; omega
    rw [getD_snocR]
    refine ⟨hc, fun b hb hn => ?_⟩
    rw [getD_snocL hb]
    exact (fitC_iff.1 hf b hb hn).symm
theorem ValC.pre {near : Nat → Nat → Bool} {many : Nat} {C r : List Nat} (h : ValC near many (C ++ r)) : ValC near many C := fun a ha => by
  have hg : ∀ b, b < C.length → (C ++ r).getD b 0 = C.getD b 0 := fun b hb => by rw [List.getD_eq_getElem?_getD, List.getElem?_append_left hb, ← List.getD_eq_getElem?_getD]
  have := h a (by rw [List.length_append]; omega)
  rw [hg a ha] at this
  refine ⟨this.1, fun b hb hn => ?_⟩
  rw [← hg b (by omega)]
  exact this.2 b hb hn

theorem colS_sound {near : Nat → Nat → Bool} {many : Nat} : ∀ (k : Nat) {C L : List Nat}, ValC near many C → colS near many k C = some L → ValC near many L ∧ L.length = C.length + k ∧ ∃ r, L = C ++ r
  | 0, C, L, h, he => by
    have : C = L := by simpa [colS] using he
    subst this
    exact ⟨h, rfl, [], by simp⟩
  | k + 1, C, L, h, he => by
    rw [colS_succ, List.findSome?_eq_some_iff] at he
    obtain ⟨l1, c, l2, hl, hF, _⟩ := he
    have hc : c < many := by
      have : c ∈ List.range many := by rw [hl]; simp
      exact List.mem_range.1 this
    cases hf : fitC near C c
    · rw [colF_no hf] at hF; cases hF
    · rw [colF_yes hf] at hF
      obtain ⟨v, hlen, r, hr⟩ := colS_sound k (h.snoc hc hf) hF
      refine ⟨v, by rw [hlen, List.length_append]; simp; omega, c :: r, by rw [hr, List.append_assoc]; rfl⟩
theorem colS_complete {near : Nat → Nat → Bool} {many : Nat} : ∀ (k : Nat) {C L : List Nat}, ValC near many L → L.length = C.length + k → (∃ r, L = C ++ r) → (colS near many k C).isSome = true
  | 0, C, L, _, _, _ => rfl
  | k + 1, C, L, h, hlen, hr => by
    obtain ⟨r, rfl⟩ := hr
    cases r with
    | nil => simp at hlen
    | cons c r =>
      have h' : ValC near many (C ++ [c] ++ r) := by rw [List.append_assoc]; exact h
      have hv := h'.pre
      have hlast := hv C.length (by simp)
      rw [getD_snocR] at hlast
      have hf : fitC near C c = true := fitC_iff.2 fun b hb hn => by
        have := hlast.2 b hb hn
        rw [getD_snocL hb] at this
        exact this.symm
      have ih := colS_complete k (C := C ++ [c]) h' (by rw [List.length_append, List.length_append]; simp at hlen ⊢; omega) ⟨r, rfl⟩
      rw [colS_succ]
      cases hs : (List.range many).findSome? (colF near many k C) with
      | some x => rfl
      | none =>
        exfalso
        rw [List.findSome?_eq_none_iff] at hs
        have := hs c (List.mem_range.2 hlast.1)
        rw [colF_yes hf] at this
        rw [this] at ih
        cases ih

/-- as many colours as rooms are enough -/
theorem colS_all {near : Nat → Nat → Bool} (n : Nat) : (colS near n n []).isSome = true := by
  refine colS_complete n (L := List.range n) (fun a ha => ?_) (by simp) ⟨List.range n, rfl⟩
  have hg : ∀ i, i < n → (List.range n).getD i 0 = i := fun i hi => by rw [List.getD_eq_getElem?_getD, List.getElem?_range hi]; rfl
  rw [List.length_range] at ha
  rw [hg a ha]
  exact ⟨ha, fun b hb _ => by rw [hg b (by omega)]; omega⟩

/-- the least number of colours, from a number on, and its list -/
def lstC (f : Nat → Option (List Nat)) : Nat → Nat → Nat × List Nat
  | 0, m => (m, [])
  | k + 1, m => match f m with
    | some L => (m, L)
    | none => lstC f k (m + 1)
theorem lstC_no {f : Nat → Option (List Nat)} {k m : Nat} (h : f m = none) : lstC f (k + 1) m = lstC f k (m + 1) := by
  show (match f m with | some L => (m, L) | none => lstC f k (m + 1)) = _
  rw [h]
theorem lstC_yes {f : Nat → Option (List Nat)} {k m : Nat} {L : List Nat} (h : f m = some L) : lstC f (k + 1) m = (m, L) := by
  show (match f m with | some L => (m, L) | none => lstC f k (m + 1)) = _
  rw [h]
theorem lstC_is {f : Nat → Option (List Nat)} : ∀ (k m : Nat), (f (m + k)).isSome = true → ∃ j, m ≤ j ∧ j ≤ m + k ∧ (lstC f (k + 1) m).1 = j ∧ f j = some (lstC f (k + 1) m).2 ∧ ∀ i, m ≤ i → i < j → f i = none
  | 0, m, h => by
    cases hf : f m with
    | none => rw [Nat.add_zero, hf] at h; cases h
    | some L => rw [lstC_yes hf]; exact ⟨m, Nat.le_refl _, by omega, rfl, hf, fun i h1 h2 => by omega⟩
  | k + 1, m, h => by
    cases hf : f m with
    | some L => rw [lstC_yes hf]; exact ⟨m, Nat.le_refl _, by omega, rfl, hf, fun i h1 h2 => by omega⟩
    | none =>
      rw [lstC_no hf]
      obtain ⟨j, h1, h2, h3, h4, h5⟩ := lstC_is k (m + 1) (by rw [show m + 1 + k = m + (k + 1) by omega]; exact h)
      refine ⟨j, by omega, by omega, h3, h4, fun i hi hij => ?_⟩
      by_cases he : i = m
      · subst he; exact hf
      · exact h5 i (by omega) hij
/-- of so many rooms -/
def leastC (near : Nat → Nat → Bool) (n : Nat) : Nat × List Nat := lstC (fun m => colS near m n []) n 1
theorem leastC_is {near : Nat → Nat → Bool} {n : Nat} (hn : 0 < n) : 1 ≤ (leastC near n).1 ∧ (leastC near n).1 ≤ n ∧ colS near (leastC near n).1 n [] = some (leastC near n).2 ∧ ∀ i, 1 ≤ i → i < (leastC near n).1 → colS near i n [] = none := by
  obtain ⟨k, rfl⟩ : ∃ k, n = k + 1 := ⟨n - 1, by omega⟩
  obtain ⟨j, h1, h2, h3, h4, h5⟩ := lstC_is (f := fun m => colS near m (k + 1) []) k 1 (by rw [Nat.add_comm]; exact colS_all (k + 1))
  unfold leastC
  rw [h3]
  exact ⟨h1, by omega, h4, h5⟩
theorem leastC_val {near : Nat → Nat → Bool} {n : Nat} (hn : 0 < n) : ValC near (leastC near n).1 (leastC near n).2 ∧ (leastC near n).2.length = n := by
  obtain ⟨_, _, h, _⟩ := leastC_is (near := near) hn
  obtain ⟨v, hl, _⟩ := colS_sound n (C := []) (fun a ha => by simp at ha) h
  exact ⟨v, by simpa using hl⟩
/-- fewer colours are not enough -/
theorem leastC_le {near : Nat → Nat → Bool} {n m : Nat} (hn : 0 < n) {L : List Nat} (hv : ValC near m L) (hl : L.length = n) : (leastC near n).1 ≤ m := by
  obtain ⟨_, _, _, h⟩ := leastC_is (near := near) hn
  have hm : 1 ≤ m := by have := (hv 0 (by omega)).1; omega
  refine Nat.le_of_not_lt fun hlt => ?_
  have := h m hm hlt
  have h2 := colS_complete (near := near) n (C := []) hv (by simpa using hl) ⟨L, rfl⟩
  rw [this] at h2; cases h2
theorem leastC_eq {near : Nat → Nat → Bool} {n m : Nat} {L : List Nat} (hn : 0 < n) (h1 : 1 ≤ m) (h : ∀ i, 1 ≤ i → i < m → colS near i n [] = none) (hL : colS near m n [] = some L) : leastC near n = (m, L) := by
  obtain ⟨k1, k2, k3, k4⟩ := leastC_is (near := near) hn
  have e : (leastC near n).1 = m := by
    rcases Nat.lt_trichotomy (leastC near n).1 m with hlt | he | hgt
    · have := h _ k1 hlt
      rw [k3] at this; cases this
    · exact he
    · have := k4 m h1 hgt
      rw [hL] at this; cases this
  have e2 : (leastC near n).2 = L := by
    rw [e, hL] at k3
    exact (Option.some.inj k3).symm
  exact Prod.ext e e2
/-- the greatest colour is one less than their number -/
theorem leastC_max {near : Nat → Nat → Bool} {n : Nat} (hn : 0 < n) : (∀ a, a < n → (leastC near n).2.getD a 0 + 1 ≤ (leastC near n).1) ∧ ∃ a, a < n ∧ (leastC near n).2.getD a 0 + 1 = (leastC near n).1 := by
  obtain ⟨v, hl⟩ := leastC_val (near := near) hn
  refine ⟨fun a ha => (v a (by omega)).1, Classical.byContradiction fun hno => ?_⟩
  obtain ⟨h1, _⟩ := leastC_is (near := near) hn
  have hall : ValC near ((leastC near n).1 - 1) (leastC near n).2 := fun a ha => by
    have h2 := v a ha
    refine ⟨?_, h2.2⟩
    have : (leastC near n).2.getD a 0 + 1 ≠ (leastC near n).1 := fun he => hno ⟨a, by omega, he⟩
    omega
  have := leastC_le hn hall hl
  omega
end Go.Proofs.Ytgiikdcjigcnlaa
