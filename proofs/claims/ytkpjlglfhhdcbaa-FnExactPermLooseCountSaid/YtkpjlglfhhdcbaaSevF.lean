
/-
  Fair and loose permutations. (Plain mathematics: no function is named.)
-/
import Derived.Test.YtkpjlglfhhdcbaaSevM
namespace Go.Proofs.Ytkpjlglfhhdcbaa

/-- four places show one of the two orders -/
def twiP (l : List Int) (a b c d : Nat) : Prop := (l.getD c 0 < l.getD a 0 ∧ l.getD a 0 < l.getD d 0 ∧ l.getD d 0 < l.getD b 0) ∨ (l.getD b 0 < l.getD d 0 ∧ l.getD d 0 < l.getD a 0 ∧ l.getD a 0 < l.getD c 0)
instance (l : List Int) (a b c d : Nat) : Decidable (twiP l a b c d) := by unfold twiP; infer_instance
def LooseP (l : List Int) : Prop := ∀ a b c d, a < b → b < c → c < d → d < l.length → ¬ twiP l a b c d
def FairP (l : List Int) : Prop := ∀ a b d, a < b → b + 1 < d → d < l.length → ¬ twiP l a b (b + 1) d

def looseB (l : List Int) : Bool := (List.range l.length).all fun a => (List.range l.length).all fun b => (List.range l.length).all fun c => (List.range l.length).all fun d => !(decide (a < b) && decide (b < c) && decide (c < d) && decide (twiP l a b c d))
def fairB (l : List Int) : Bool := (List.range l.length).all fun a => (List.range l.length).all fun b => (List.range l.length).all fun d => !(decide (a < b) && decide (b + 1 < d) && decide (twiP l a b (b + 1) d))
theorem looseB_iff {l : List Int} : looseB l = true ↔ LooseP l := by
  unfold looseB LooseP
  simp only [List.all_eq_true, List.mem_range, Bool.not_eq_true', Bool.and_eq_false_iff, decide_eq_false_iff_not]
  constructor
  · intro h a b c d h1 h2 h3 h4
    rcases h a (by omega) b (by omega) c (by omega) d h4 with ((h | h) | h) | h
    · exact absurd h1 h
    · exact absurd h2 h
    · exact absurd h3 h
    · exact h
  · intro h a _ b _ c _ d hd
    by_cases h1 : a < b
    · by_cases h2 : b < c
      · by_cases h3 : c < d
        · exact .inr (h a b c d h1 h2 h3 hd)
        · exact .inl (.inr h3)
      · exact .inl (.inl (.inr h2))
    · exact .inl (.inl (.inl h1))
theorem fairB_iff {l : List Int} : fairB l = true ↔ FairP l := by
  unfold fairB FairP
  simp only [List.all_eq_true, List.mem_range, Bool.not_eq_true', Bool.and_eq_false_iff, decide_eq_false_iff_not]
  constructor
  · intro h a b d h1 h2 h4
    rcases h a (by omega) b (by omega) d h4 with (h | h) | h
    · exact absurd h1 h
    · exact absurd h2 h
    · exact h
  · intro h a _ b _ d hd
    by_cases h1 : a < b
    · by_cases h2 : b + 1 < d
      · exact .inr (h a b d h1 h2 hd)
      · exact .inl (.inr h2)
    · exact .inl (.inl h1)
theorem looseB_no {l : List Int} {a b c d : Nat} (h1 : a < b) (h2 : b < c) (h3 : c < d) (h4 : d < l.length) (h : twiP l a b c d) : looseB l = false := by
  cases hl : looseB l
  · rfl
  · exact absurd h (looseB_iff.1 hl a b c d h1 h2 h3 h4)
theorem fairB_no {l : List Int} {a b d : Nat} (h1 : a < b) (h2 : b + 1 < d) (h4 : d < l.length) (h : twiP l a b (b + 1) d) : fairB l = false := by
  cases hl : fairB l
  · rfl
  · exact absurd h (fairB_iff.1 hl a b d h1 h2 h4)

theorem LooseP.fair {l : List Int} (h : LooseP l) : FairP l := fun a b d h1 h2 h4 => h a b (b + 1) d h1 (by omega) h2 h4

/-! # backwards -/
theorem twi_rev {l : List Int} {a b c d : Nat} (h1 : a < b) (h2 : b < c) (h3 : c < d) (h4 : d < l.length) (h : twiP l.reverse a b c d) : twiP l (l.length - 1 - d) (l.length - 1 - c) (l.length - 1 - b) (l.length - 1 - a) := by
  unfold twiP at h ⊢
  rw [rev_at (show a < l.length by omega), rev_at (show b < l.length by omega), rev_at (show c < l.length by omega), rev_at h4] at h
  omega
theorem LooseP.rev {l : List Int} (h : LooseP l) : LooseP l.reverse := fun a b c d h1 h2 h3 h4 ht => by
  rw [List.length_reverse] at h4
  exact h _ _ _ _ (by omega) (by omega) (by omega) (by omega) (twi_rev h1 h2 h3 h4 ht)
theorem FairP.rev {l : List Int} (h : FairP l) : FairP l.reverse := fun a b d h1 h3 h4 ht => by
  rw [List.length_reverse] at h4
  have := twi_rev h1 (by omega) h3 h4 ht
  rw [show l.length - 1 - b = l.length - 1 - (b + 1) + 1 by omega] at this
  exact h _ _ _ (by omega) (by omega) (by omega) this

/-! # places -/
theorem Few.inv_at {l : List Int} (h : Few l) {v : Nat} (hv : v < l.length) : ∃ i : Nat, i < l.length ∧ (invL l).getD v 0 = i ∧ l.getD i 0 = v := by
  exact ⟨l.idxOf (v : Int), h.idx hv, invL_at hv, at_idxOf (h.mem hv)⟩
theorem Few.inv_of {l : List Int} (h : Few l) {i v : Nat} (hi : i < l.length) (hv : l.getD i 0 = v) : v < l.length ∧ (invL l).getD v 0 = i := by
  have := h.at hi
  have hv' : v < l.length := by omega
  refine ⟨hv', ?_⟩
  obtain ⟨j, hj, h1, h2⟩ := h.inv_at hv'
  rw [h1, h.inj hj hi (by omega)]
theorem LooseP.inv {l : List Int} (hf : Few l) (h : LooseP l) : LooseP (invL l) := fun a b c d h1 h2 h3 h4 ht => by
  rw [invL_len] at h4
  obtain ⟨ia, la, qa, pa⟩ := hf.inv_at (show a < l.length by omega)
  obtain ⟨ib, lb, qb, pb⟩ := hf.inv_at (show b < l.length by omega)
  obtain ⟨ic, lc, qc, pc⟩ := hf.inv_at (show c < l.length by omega)
  obtain ⟨id, ld, qd, pd⟩ := hf.inv_at h4
  unfold twiP at ht
  rw [qa, qb, qc, qd] at ht
  rcases ht with ⟨k1, k2, k3⟩ | ⟨k1, k2, k3⟩
  · refine h ic ia id ib (by omega) (by omega) (by omega) lb (.inr ?_)
    rw [pa, pb, pc, pd]; omega
  · refine h ib id ia ic (by omega) (by omega) (by omega) lc (.inl ?_)
    rw [pa, pb, pc, pd]; omega

/-- between a number whose place has a property and a greater one whose place has none there are two side by side -/
theorem step_between (P : Nat → Prop) [DecidablePred P] : ∀ (n u : Nat), P u → ¬ P (u + n) → ∃ v, u ≤ v ∧ v < u + n ∧ P v ∧ ¬ P (v + 1)
  | 0, u, h, h' => absurd h h'
  | n + 1, u, h, h' => by
    by_cases hn : P (u + n)
    · exact ⟨u + n, by omega, by omega, hn, h'⟩
    · obtain ⟨v, a, b, c, d⟩ := step_between P n u h hn
      exact ⟨v, a, by omega, c, d⟩

/-- four places whose numbers show it, two of the numbers side by side: then so do two places -/
theorem FairP.inv {l : List Int} (hf : Few l) (h : FairP l) : FairP (invL l) := fun a b d h1 h2 h4 ht => by
  rw [invL_len] at h4
  obtain ⟨ia, la, qa, pa⟩ := hf.inv_at (show a < l.length by omega)
  obtain ⟨ib, lb, qb, pb⟩ := hf.inv_at (show b < l.length by omega)
  obtain ⟨ic, lc, qc, pc⟩ := hf.inv_at (show b + 1 < l.length by omega)
  obtain ⟨id, ld, qd, pd⟩ := hf.inv_at h4
  unfold twiP at ht
  rw [qa, qb, qc, qd] at ht
  rcases ht with ⟨k1, k2, k3⟩ | ⟨k1, k2, k3⟩
  · -- places: b+1, a, d, b: between a's and d's place numbers step from below b to above b + 1
    obtain ⟨v, e1, e2, e3, e4⟩ := step_between (fun i => l.getD i 0 ≤ b) (id - ia) ia (by rw [pa]; omega) (by rw [show ia + (id - ia) = id by omega, pd]; omega)
    have n1 : l.getD (v + 1) 0 ≠ (b + 1 : Nat) := fun e => by
      have := hf.inj (show v + 1 < l.length by omega) lc (by rw [e, pc]); omega
    have n2 : l.getD v 0 ≠ b := fun e => by
      have := hf.inj (show v < l.length by omega) lb (by rw [e, pb]); omega
    have hvi : v + 1 < ib := by omega
    refine h ic v ib (by omega) (by omega) lb (.inr ?_)
    rw [pb, pc]; omega
  · -- places: b, d, a, b+1
    obtain ⟨v, e1, e2, e3, e4⟩ := step_between (fun i => ¬ l.getD i 0 ≤ b) (ia - id) id (by rw [pd]; omega) (by rw [show id + (ia - id) = ia by omega, pa]; omega)
    have n1 : l.getD v 0 ≠ (b + 1 : Nat) := fun e => by
      have := hf.inj (show v < l.length by omega) lc (by rw [e, pc]); omega
    have n2 : l.getD (v + 1) 0 ≠ b := fun e => by
      have := hf.inj (show v + 1 < l.length by omega) lb (by rw [e, pb]); omega
    refine h ib v ic (by omega) (by omega) lc (.inl ?_)
    rw [pb, pc]; omega

/-! # aside -/
theorem Few.parts {l m : List Int} (hl : Few l) (hm : Few m) {i : Nat} (hi : i < l.length + m.length) : (i < l.length ∧ (asideL l m).getD i 0 = l.getD i 0 ∧ 0 ≤ l.getD i 0 ∧ l.getD i 0 < l.length) ∨ ∃ j, i = l.length + j ∧ j < m.length ∧ (asideL l m).getD i 0 = m.getD j 0 + l.length ∧ 0 ≤ m.getD j 0 ∧ m.getD j 0 < m.length := by
  by_cases h : i < l.length
  · exact .inl ⟨h, aside_fst h, hl.at h⟩
  · obtain ⟨j, rfl⟩ : ∃ j, i = l.length + j := ⟨i - l.length, by omega⟩
    exact .inr ⟨j, rfl, by omega, aside_snd (by omega), hm.at (by omega)⟩
theorem twi_fst {l m : List Int} {a b c d : Nat} (ha : a < l.length) (hb : b < l.length) (hc : c < l.length) (hd : d < l.length) : twiP (asideL l m) a b c d ↔ twiP l a b c d := by
  unfold twiP; rw [aside_fst ha, aside_fst hb, aside_fst hc, aside_fst hd]
theorem twi_snd {l m : List Int} {a b c d : Nat} (ha : a < m.length) (hb : b < m.length) (hc : c < m.length) (hd : d < m.length) : twiP (asideL l m) (l.length + a) (l.length + b) (l.length + c) (l.length + d) ↔ twiP m a b c d := by
  unfold twiP; rw [aside_snd ha, aside_snd hb, aside_snd hc, aside_snd hd]; omega
theorem twi_aside {l m : List Int} (hl : Few l) (hm : Few m) {a b c d : Nat} (h1 : a < b) (h2 : b < c) (h3 : c < d) (h4 : d < l.length + m.length) (h : twiP (asideL l m) a b c d) :
    d < l.length ∨ l.length ≤ a := by
  unfold twiP at h
  rcases hl.parts hm (show a < l.length + m.length by omega) with ⟨xa, ea, _, _⟩ | ⟨a', rfl, xa, ea, _, _⟩
  · rcases hl.parts hm h4 with ⟨xd, ed, _, _⟩ | ⟨d', rfl, xd, ed, _, _⟩
    · exact .inl xd
    · exfalso
      rcases hl.parts hm (show b < l.length + m.length by omega) with ⟨xb, eb, _, _⟩ | ⟨b', rfl, xb, eb, _, _⟩ <;> rcases hl.parts hm (show c < l.length + m.length by omega) with ⟨xc, ec, _, _⟩ | ⟨c', rfl, xc, ec, _, _⟩ <;> rw [ea, eb, ec, ed] at h <;> omega
  · exact .inr (by omega)
theorem loose_aside {l m : List Int} (hl : Few l) (hm : Few m) : LooseP (asideL l m) ↔ LooseP l ∧ LooseP m := by
  constructor
  · intro h
    refine ⟨fun a b c d h1 h2 h3 h4 ht => h a b c d h1 h2 h3 (by rw [asideL_len]; omega) ((twi_fst (by omega) (by omega) (by omega) h4).2 ht), fun a b c d h1 h2 h3 h4 ht => h (l.length + a) (l.length + b) (l.length + c) (l.length + d) (by omega) (by omega) (by omega) (by rw [asideL_len]; omega) ((twi_snd (by omega) (by omega) (by omega) h4).2 ht)⟩
  · rintro ⟨h, h'⟩ a b c d h1 h2 h3 h4 ht
    rw [asideL_len] at h4
    rcases twi_aside hl hm h1 h2 h3 h4 ht with hd | ha
    · exact h a b c d h1 h2 h3 hd ((twi_fst (by omega) (by omega) (by omega) hd).1 ht)
    · obtain ⟨a', rfl⟩ : ∃ j, a = l.length + j := ⟨a - l.length, by omega⟩
      obtain ⟨b', rfl⟩ : ∃ j, b = l.length + j := ⟨b - l.length, by omega⟩
      obtain ⟨c', rfl⟩ : ∃ j, c = l.length + j := ⟨c - l.length, by omega⟩
      obtain ⟨d', rfl⟩ : ∃ j, d = l.length + j := ⟨d - l.length, by omega⟩
      exact h' a' b' c' d' (by omega) (by omega) (by omega) (by omega) ((twi_snd (by omega) (by omega) (by omega) (by omega)).1 ht)
theorem fair_aside {l m : List Int} (hl : Few l) (hm : Few m) : FairP (asideL l m) ↔ FairP l ∧ FairP m := by
  constructor
  · intro h
    refine ⟨fun a b d h1 h3 h4 ht => h a b d h1 h3 (by rw [asideL_len]; omega) ((twi_fst (by omega) (by omega) (by omega) h4).2 ht), fun a b d h1 h3 h4 ht => h (l.length + a) (l.length + b) (l.length + d) (by omega) (by omega) (by rw [asideL_len]; omega) ((twi_snd (by omega) (by omega) (by omega) h4).2 ht)⟩
  · rintro ⟨h, h'⟩ a b d h1 h3 h4 ht
    rw [asideL_len] at h4
    rcases twi_aside hl hm h1 (by omega) h3 h4 ht with hd | ha
    · exact h a b d h1 h3 hd ((twi_fst (by omega) (by omega) (by omega) hd).1 ht)
    · obtain ⟨a', rfl⟩ : ∃ j, a = l.length + j := ⟨a - l.length, by omega⟩
      obtain ⟨b', rfl⟩ : ∃ j, b = l.length + j := ⟨b - l.length, by omega⟩
      obtain ⟨d', rfl⟩ : ∃ j, d = l.length + j := ⟨d - l.length, by omega⟩
      exact h' a' b' d' (by omega) (by omega) (by omega) ((twi_snd (by omega) (by omega) (by omega) (by omega)).1 ht)
theorem eq_of_iff_bool {a b : Bool} (h : a = true ↔ b = true) : a = b := by rw [Bool.eq_iff_iff]; exact h
theorem looseB_aside {l m : List Int} (hl : Few l) (hm : Few m) : looseB (asideL l m) = (looseB l && looseB m) := eq_of_iff_bool (by rw [Bool.and_eq_true, looseB_iff, looseB_iff, looseB_iff]; exact loose_aside hl hm)
theorem fairB_aside {l m : List Int} (hl : Few l) (hm : Few m) : fairB (asideL l m) = (fairB l && fairB m) := eq_of_iff_bool (by rw [Bool.and_eq_true, fairB_iff, fairB_iff, fairB_iff]; exact fair_aside hl hm)

theorem inv_inv {l : List Int} (h : Few l) : invL (invL l) = l := by
  refine list_ext (by rw [invL_len, invL_len]) fun i hi => ?_
  rw [invL_len, invL_len] at hi
  have hlo := h.at hi
  obtain ⟨x, hx⟩ : ∃ x : Nat, l.getD i 0 = x := ⟨(l.getD i 0).toNat, by omega⟩
  obtain ⟨h1, h2⟩ := h.inv_of hi hx
  obtain ⟨_, h4⟩ := h.inv.inv_of (by rw [invL_len]; exact h1) h2
  rw [h4, hx]

end Go.Proofs.Ytkpjlglfhhdcbaa
