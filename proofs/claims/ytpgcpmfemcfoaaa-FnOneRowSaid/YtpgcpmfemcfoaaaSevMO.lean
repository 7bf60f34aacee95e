/-
  Permutations of at most seven numbers, as lists, and as seven numbers with zeros behind. (Plain mathematics: no function is named.)
-/
import Derived.Test.YtpgcpmfemcfoaaaRowO

namespace Go.Proofs.Ytpgcpmfemcfoaaa

/-! # lists -/
theorem len_le_of_sub {α : Type} [DecidableEq α] : ∀ (l m : List α), l.Nodup → (∀ x ∈ l, x ∈ m) → l.length ≤ m.length
  | [], _, _, _ => Nat.zero_le _
  | x :: l, m, hd, h => by
    have hx := h x (by simp)
    obtain ⟨hn, hd'⟩ := List.nodup_cons.1 hd
    have := len_le_of_sub l (m.erase x) hd' (fun y hy => (List.mem_erase_of_ne (fun e : y = x => hn (by rw [← e]; exact hy))).2 (h y (List.mem_cons_of_mem _ hy)))
    rw [List.length_erase_of_mem hx] at this
    have := List.length_pos_of_mem hx
    rw [List.length_cons]; omega

def upto (n : Nat) : List Int := (List.range n).map fun (i : Nat) => (i : Int)
theorem mem_upto {n : Nat} {x : Int} : x ∈ upto n ↔ 0 ≤ x ∧ x < n := by
  unfold upto
  rw [List.mem_map]
  constructor
  · rintro ⟨i, hi, rfl⟩
    rw [List.mem_range] at hi
    omega
  · rintro ⟨h0, h1⟩
    exact ⟨x.toNat, by rw [List.mem_range]; omega, by omega⟩
theorem upto_len (n : Nat) : (upto n).length = n := by simp [upto]
theorem nodup_all {n : Nat} {l : List Int} (hd : l.Nodup) (h : ∀ x ∈ l, 0 ≤ x ∧ x < n) (hl : l.length = n) (b : Nat) (hb : b < n) : (b : Int) ∈ l := by
  refine Classical.byContradiction fun hn => ?_
  have := len_le_of_sub ((b : Int) :: l) (upto n) (List.nodup_cons.2 ⟨hn, hd⟩) (fun x hx => by
    rw [mem_upto]
    rcases List.mem_cons.1 hx with rfl | hx
    · omega
    · exact h x hx)
  rw [upto_len, List.length_cons] at this
  omega

/-! # permutations -/
/-- a permutation, or nothing -/
structure Few (l : List Int) : Prop where
  len : l.length ≤ 7
  low : ∀ x ∈ l, 0 ≤ x ∧ x < (l.length : Int)
  nodup : l.Nodup

def isP (l : List Int) : Bool := decide (1 ≤ l.length ∧ l.length ≤ 7 ∧ (∀ x ∈ l, 0 ≤ x ∧ x < (l.length : Int)) ∧ l.Nodup)
theorem isP_few {l : List Int} (h : isP l = true) : Few l := by
  unfold isP at h; rw [decide_eq_true_eq] at h; exact ⟨h.2.1, h.2.2.1, h.2.2.2⟩
theorem isP_mk {l : List Int} (h : Few l) (h1 : 1 ≤ l.length) : isP l = true := by
  unfold isP; rw [decide_eq_true_eq]; exact ⟨h1, h.len, h.low, h.nodup⟩
/-- what is read of a list: itself, or nothing -/
def orNil (l : List Int) : List Int := if isP l then l else []
theorem orNil_yes {l : List Int} (h : isP l = true) : orNil l = l := by unfold orNil; rw [if_pos h]
theorem orNil_no {l : List Int} (h : isP l = false) : orNil l = [] := by unfold orNil; rw [h]; rfl

theorem getD_low {l : List Int} (h : ∀ x ∈ l, 0 ≤ x ∧ x < (l.length : Int)) (i : Nat) (hi : i < l.length) : 0 ≤ l.getD i 0 ∧ l.getD i 0 < l.length := by
  rw [List.getD_eq_getElem?_getD, List.getElem?_eq_getElem hi]
  exact h _ (List.getElem_mem hi)

/-! ## the numbers that came, as bits -/
/-! ## seven numbers -/
def padL (l : List Int) : List Int := l.map (· + 1) ++ List.replicate (7 - l.length) 0
theorem padL_len {l : List Int} (h : l.length ≤ 7) : (padL l).length = 7 := by simp [padL]; omega
theorem padL_lt {l : List Int} {i : Nat} (h : i < l.length) : (padL l).getD i 0 = l.getD i 0 + 1 := by
  unfold padL
  rw [List.getD_eq_getElem?_getD, List.getElem?_append_left (by simpa using h), List.getElem?_map, List.getD_eq_getElem?_getD, List.getElem?_eq_getElem h]
  rfl
theorem padL_ge {l : List Int} {i : Nat} (h : l.length ≤ i) : (padL l).getD i 0 = 0 := by
  unfold padL
  rw [List.getD_eq_getElem?_getD, List.getElem?_append_right (by simpa using h), List.getElem?_replicate]
  split <;> rfl
theorem nodup_at {l : List Int} : l.Nodup ↔ ∀ i j, i < j → j < l.length → l.getD i 0 ≠ l.getD j 0 := by
  unfold List.Nodup
  rw [List.pairwise_iff_getElem]
  constructor
  · intro h i j hij hj
    have := h i j (by omega) hj hij
    rwa [List.getD_eq_getElem?_getD, List.getD_eq_getElem?_getD, List.getElem?_eq_getElem hj, List.getElem?_eq_getElem (show i < l.length by omega)]
  · intro h i j hi hj hij
    have := h i j hij hj
    rwa [List.getD_eq_getElem?_getD, List.getD_eq_getElem?_getD, List.getElem?_eq_getElem hj, List.getElem?_eq_getElem hi] at this
theorem list_ext {l m : List Int} (hl : l.length = m.length) (h : ∀ i, i < l.length → l.getD i 0 = m.getD i 0) : l = m := by
  refine List.ext_getElem hl fun i h1 h2 => ?_
  have := h i h1
  rw [List.getD_eq_getElem?_getD, List.getD_eq_getElem?_getD, List.getElem?_eq_getElem h1, List.getElem?_eq_getElem h2] at this
  exact this
theorem padL_ext {l : List Int} (h : l.length ≤ 7) {L : List Int} (hL : L.length = 7) (h1 : ∀ i, i < l.length → L.getD i 0 = l.getD i 0 + 1) (h2 : ∀ i, l.length ≤ i → i < 7 → L.getD i 0 = 0) : L = padL l := by
  refine list_ext (by rw [hL, padL_len h]) fun i hi => ?_
  by_cases hlt : i < l.length
  · rw [padL_lt hlt, h1 i hlt]
  · rw [padL_ge (by omega), h2 i (by omega) (by omega)]
theorem padL_inj {l m : List Int} (h0 : ∀ x ∈ l, 0 ≤ x) (h1 : ∀ x ∈ m, 0 ≤ x) (h : padL l = padL m) : l = m := by
  have key : ∀ (l m : List Int), (∀ x ∈ l, 0 ≤ x) → padL l = padL m → ¬ m.length < l.length := by
    intro l m h0 h hlt
    have a := padL_lt hlt
    rw [h, padL_ge (Nat.le_refl _)] at a
    have := h0 (l.getD m.length 0) (by rw [List.getD_eq_getElem?_getD, List.getElem?_eq_getElem hlt]; exact List.getElem_mem hlt)
    omega
  have a := key l m h0 h
  have b := key m l h1 h.symm
  refine list_ext (by omega) fun i hi => ?_
  have c := padL_lt hi
  rw [h, padL_lt (by omega)] at c
  omega

theorem set_getD (L : List Int) (i : Nat) (x : Int) (j : Nat) (hi : i < L.length) : (L.set i x).getD j 0 = if j = i then x else L.getD j 0 := by
  rw [List.getD_eq_getElem?_getD, List.getElem?_set]
  by_cases h : i = j
  · subst h; simp [hi]
  · rw [if_neg h, if_neg (fun e => h e.symm), List.getD_eq_getElem?_getD]

/-! ## places of numbers -/
def othP (P : List Int) : Nat → List Int
  | 0 => List.replicate 7 0
  | k + 1 => if 0 < P.getD k 0 then (othP P k).set (P.getD k 0 - 1).toNat ((k : Int) + 1) else othP P k
theorem othP_len (P : List Int) : ∀ k, (othP P k).length = 7
  | 0 => by simp [othP]
  | k + 1 => by
    rw [othP]; split
    · rw [List.length_set]; exact othP_len P k
    · exact othP_len P k
theorem othP_none {P : List Int} {v : Nat} (hv : v < 7) : ∀ k, (∀ j, j < k → P.getD j 0 ≠ v + 1) → (∀ j, j < k → P.getD j 0 ≤ 7) → (othP P k).getD v 0 = 0
  | 0, _, _ => by unfold othP; rw [List.getD_eq_getElem?_getD, List.getElem?_replicate, if_pos hv]; rfl
  | k + 1, h, hb => by
    have ih := othP_none hv k (fun j hj => h j (by omega)) (fun j hj => hb j (by omega))
    have hk := h k (by omega)
    have hk7 := hb k (by omega)
    rw [othP]; split
    · rw [set_getD _ _ _ _ (by rw [othP_len]; omega), if_neg (by omega)]; exact ih
    · exact ih
theorem othP_some {P : List Int} {v j : Nat} (hv : v < 7) : ∀ k, j < k → P.getD j 0 = v + 1 → (∀ i, j < i → i < k → P.getD i 0 ≠ v + 1) → (∀ i, i < k → P.getD i 0 ≤ 7) → (othP P k).getD v 0 = (j : Int) + 1
  | k + 1, hj, h1, h2, hb => by
    have hk7 := hb k (by omega)
    rw [othP]
    by_cases hjk : j = k
    · subst hjk
      rw [if_pos (by omega), set_getD _ _ _ _ (by rw [othP_len]; omega), if_pos (by omega)]
    · have ih := othP_some hv k (by omega) h1 (fun i a b => h2 i a (by omega)) (fun i a => hb i (by omega))
      have hk := h2 k (by omega) (by omega)
      split
      · rw [set_getD _ _ _ _ (by rw [othP_len]; omega), if_neg (by omega)]; exact ih
      · exact ih

theorem exists_last {P : Nat → Prop} [DecidablePred P] : ∀ (k i : Nat), i < k → P i → ∃ j, i ≤ j ∧ j < k ∧ P j ∧ ∀ t, j < t → t < k → ¬ P t
  | k + 1, i, hi, h => by
    by_cases hk : P k
    · exact ⟨k, by omega, by omega, hk, fun t _ _ => by omega⟩
    · have hne : i ≠ k := fun e => hk (e ▸ h)
      obtain ⟨j, a, b, c, d⟩ := exists_last k i (by omega) h
      refine ⟨j, a, by omega, c, fun t h1 h2 => ?_⟩
      by_cases ht : t = k
      · rw [ht]; exact hk
      · exact d t h1 (by omega)

/-- seven numbers, none of them below 0 nor above 7 -/
structure Sev (P : List Int) : Prop where
  len : P.length = 7
  low : ∀ i, i < 7 → 0 ≤ P.getD i 0 ∧ P.getD i 0 ≤ 7
theorem sev_pad {l : List Int} (h : l.length ≤ 7) (h0 : ∀ x ∈ l, 0 ≤ x ∧ x < 7) : Sev (padL l) := by
  refine ⟨padL_len h, fun i hi => ?_⟩
  by_cases hlt : i < l.length
  · rw [padL_lt hlt]
    have := h0 (l.getD i 0) (by rw [List.getD_eq_getElem?_getD, List.getElem?_eq_getElem hlt]; exact List.getElem_mem hlt)
    omega
  · rw [padL_ge (by omega)]; omega
theorem Few.sev {l : List Int} (h : Few l) : Sev (padL l) := sev_pad h.len fun x hx => by
  have := h.low x hx
  have := h.len
  omega

/-- what the places of the numbers are, one by one -/
theorem oth_cases {P : List Int} (h : Sev P) {v : Nat} (hv : v < 7) : (∃ j, j < 7 ∧ P.getD j 0 = v + 1 ∧ (∀ i, j < i → i < 7 → P.getD i 0 ≠ v + 1) ∧ (othP P 7).getD v 0 = (j : Int) + 1) ∨ ((∀ j, j < 7 → P.getD j 0 ≠ v + 1) ∧ (othP P 7).getD v 0 = 0) := by
  by_cases hx : ∃ i, i < 7 ∧ P.getD i 0 = v + 1
  · obtain ⟨i, hi, he⟩ := hx
    obtain ⟨j, _, b, c, d⟩ := exists_last (P := fun i => P.getD i 0 = (v : Int) + 1) 7 i hi he
    exact .inl ⟨j, b, c, d, othP_some hv 7 b c d (fun i hi => (h.low i hi).2)⟩
  · have hn : ∀ j, j < 7 → P.getD j 0 ≠ v + 1 := fun j hj e => hx ⟨j, hj, e⟩
    exact .inr ⟨hn, othP_none hv 7 hn (fun i hi => (h.low i hi).2)⟩
theorem Sev.oth {P : List Int} (h : Sev P) : Sev (othP P 7) := by
  refine ⟨othP_len _ _, fun v hv => ?_⟩
  rcases oth_cases h hv with ⟨j, hj, _, _, e⟩ | ⟨_, e⟩ <;> rw [e] <;> omega

/-- places of places are the numbers exactly if none is there twice -/
theorem oth_oth {P : List Int} (h : Sev P) : othP (othP P 7) 7 = P ↔ ∀ i j, i < j → j < 7 → 0 < P.getD i 0 → P.getD i 0 ≠ P.getD j 0 := by
  constructor
  · intro he i j hij hj hp e
    have hi := h.low i (by omega)
    obtain ⟨v, hv⟩ : ∃ v : Nat, P.getD i 0 = v + 1 := ⟨(P.getD i 0 - 1).toNat, by omega⟩
    rcases oth_cases h (show v < 7 by omega) with ⟨t, ht, ht1, ht2, ht3⟩ | ⟨hn, _⟩
    · have hti : i < t := by
        refine Classical.byContradiction fun hc => ?_
        exact ht2 j (by omega) hj (by rw [← e]; exact hv)
      have h2 : (othP (othP P 7) 7).getD i 0 = P.getD i 0 := by rw [he]
      rcases oth_cases h.oth (show i < 7 by omega) with ⟨u, hu, hu1, _, hu3⟩ | ⟨_, hu3⟩
      · rw [hu3] at h2
        have : u = v := by omega
        subst this
        rw [ht3] at hu1
        omega
      · rw [hu3] at h2; omega
    · exact hn i (by omega) hv
  · intro hd
    refine list_ext (by rw [othP_len, h.len]) fun i hi => ?_
    rw [othP_len] at hi
    have hl := h.low i hi
    rcases oth_cases h.oth hi with ⟨u, hu, hu1, _, hu3⟩ | ⟨hn, hu3⟩
    · rcases oth_cases h hu with ⟨t, ht, ht1, ht2, ht3⟩ | ⟨hn, e⟩
      · rw [ht3] at hu1
        have : t = i := by omega
        subst this
        rw [hu3, ht1]
      · rw [e] at hu1; omega
    · rw [hu3]
      by_cases hp : 0 < P.getD i 0
      · exfalso
        obtain ⟨v, hv⟩ : ∃ v : Nat, P.getD i 0 = v + 1 := ⟨(P.getD i 0 - 1).toNat, by omega⟩
        refine hn v (by omega) ?_
        rcases oth_cases h (show v < 7 by omega) with ⟨t, ht, ht1, ht2, ht3⟩ | ⟨hn', _⟩
        · rw [ht3]
          have : t = i := by
            rcases Nat.lt_trichotomy t i with hlt | he | hlt
            · exact absurd (by rw [ht1, hv]) (hd t i hlt hi (by omega))
            · exact he
            · exact absurd (by rw [ht1, hv]) (hd i t hlt ht hp)
          subst this; rfl
        · exact absurd hv (hn' i hi)
      · omega

theorem pad_distinct {l : List Int} (h7 : l.length ≤ 7) (h : ∀ x ∈ l, 0 ≤ x ∧ x < (l.length : Int)) : othP (othP (padL l) 7) 7 = padL l ↔ l.Nodup := by
  rw [oth_oth (sev_pad h7 fun x hx => by have := h x hx; omega), nodup_at]
  constructor
  · intro hd i j hij hj e
    have h1 : i < l.length := by omega
    have a := padL_lt h1
    have b := padL_lt hj
    have c := getD_low h i h1
    exact hd i j hij (by omega) (by omega) (by omega)
  · intro hd i j hij hj hp e
    have h1 : i < l.length := by
      refine Classical.byContradiction fun hc => ?_
      rw [padL_ge (by omega)] at hp; omega
    rw [padL_lt h1] at e hp
    have h2 : j < l.length := by
      refine Classical.byContradiction fun hc => ?_
      rw [padL_ge (by omega)] at e; omega
    rw [padL_lt h2] at e
    exact hd i j hij h2 (by omega)

/-! ## a permutation's places -/
def invL (l : List Int) : List Int := (List.range l.length).map fun (v : Nat) => ((l.idxOf (v : Int) : Nat) : Int)
theorem invL_len (l : List Int) : (invL l).length = l.length := by simp [invL]
theorem invL_at {l : List Int} {v : Nat} (h : v < l.length) : (invL l).getD v 0 = (l.idxOf (v : Int) : Int) := by simp [invL, h]
theorem idxOf_at {l : List Int} (hd : l.Nodup) {i : Nat} (hi : i < l.length) : l.idxOf (l.getD i 0) = i := by
  have := hd.idxOf_getElem i hi
  rw [List.getD_eq_getElem?_getD, List.getElem?_eq_getElem hi]; exact this
theorem at_idxOf {l : List Int} {x : Int} (h : x ∈ l) : l.getD (l.idxOf x) 0 = x := by
  have hlt := List.idxOf_lt_length_of_mem h
  rw [List.getD_eq_getElem?_getD, List.getElem?_eq_getElem hlt]
  exact List.getElem_idxOf hlt
theorem Few.mem {l : List Int} (h : Few l) {v : Nat} (hv : v < l.length) : (v : Int) ∈ l := nodup_all h.nodup h.low rfl v hv
theorem Few.idx {l : List Int} (h : Few l) {v : Nat} (hv : v < l.length) : l.idxOf (v : Int) < l.length := List.idxOf_lt_length_of_mem (h.mem hv)
theorem Few.at {l : List Int} (h : Few l) {i : Nat} (hi : i < l.length) : 0 ≤ l.getD i 0 ∧ l.getD i 0 < l.length := getD_low h.low i hi
theorem Few.inj {l : List Int} (h : Few l) {i j : Nat} (hi : i < l.length) (hj : j < l.length) (e : l.getD i 0 = l.getD j 0) : i = j := by
  rw [← idxOf_at h.nodup hi, ← idxOf_at h.nodup hj, e]
theorem few_of {l : List Int} (h7 : l.length ≤ 7) (h : ∀ i, i < l.length → 0 ≤ l.getD i 0 ∧ l.getD i 0 < l.length) (hi : ∀ i j, i < l.length → j < l.length → l.getD i 0 = l.getD j 0 → i = j) : Few l := by
  refine ⟨h7, fun x hx => ?_, ?_⟩
  · obtain ⟨i, hlt, rfl⟩ := List.mem_iff_getElem.1 hx
    have := h i hlt
    rwa [List.getD_eq_getElem?_getD, List.getElem?_eq_getElem hlt] at this
  · rw [nodup_at]
    intro i j hij hj e
    have := hi i j (by omega) hj e
    omega
theorem Few.inv {l : List Int} (h : Few l) : Few (invL l) := by
  refine few_of (by rw [invL_len]; exact h.len) (fun i hi => ?_) (fun i j hi hj e => ?_)
  · rw [invL_len] at hi ⊢
    rw [invL_at hi]
    have := h.idx hi
    omega
  · rw [invL_len] at hi hj
    rw [invL_at hi, invL_at hj] at e
    have a := at_idxOf (h.mem hi)
    have b := at_idxOf (h.mem hj)
    have : l.idxOf (i : Int) = l.idxOf (j : Int) := by omega
    rw [this, b] at a
    omega
theorem Few.oth {l : List Int} (h : Few l) : othP (padL l) 7 = padL (invL l) := by
  have hl := h.len
  refine padL_ext (by rw [invL_len]; exact h.len) (othP_len _ _) (fun v hv => ?_) (fun v hv h7 => ?_)
  · rw [invL_len] at hv
    rw [invL_at hv]
    have hi := h.idx hv
    have he := at_idxOf (h.mem hv)
    refine othP_some (by omega) 7 (by omega) (by rw [padL_lt hi, he]) (fun i h1 h2 e => ?_) (fun i hi => (h.sev.low i hi).2)
    by_cases hlt : i < l.length
    · rw [padL_lt hlt] at e
      have := h.inj hlt hi (by omega)
      omega
    · rw [padL_ge (by omega)] at e; omega
  · rw [invL_len] at hv
    refine othP_none (by omega) 7 (fun j hj e => ?_) (fun i hi => (h.sev.low i hi).2)
    by_cases hlt : j < l.length
    · rw [padL_lt hlt] at e
      have := h.at hlt
      omega
    · rw [padL_ge (by omega)] at e; omega

/-! ## backwards -/
/-! ## aside -/
end Go.Proofs.Ytpgcpmfemcfoaaa
