
/-
  For every slice of bytes the law FnPerm returns true, and the slice reads behind the call as it read before. No condition.
-/
import Derived.Test.YtamfnahbhhmiiaaOrdK
import Derived.Test.YtamfnahbhhmiiaaTightW
import Derived.Test.YtamfnahbhhmiiaaTightS
import Derived.Test.YtamfnahbhhmiiaaDrawQ
import Derived.Test.YtamfnahbhhmiiaaDraw
import Derived.Test.YtamfnahbhhmiiaaLaws

/-
  Orders of plans whose rows and columns are repeated. (Plain mathematics.)
-/
namespace Go.Proofs.Ytamfnahbhhmiiaa

/-- places that go on in order, each once at least -/
structure Onw (n n' : Nat) (ρ : Nat → Nat) : Prop where
  lt : ∀ i, i < n → ρ i < n'
  mono : ∀ i j, i ≤ j → j < n → ρ i ≤ ρ j
  onto : ∀ x, x < n' → ∃ i, i < n ∧ ρ i = x
theorem Onw.step {n n' : Nat} {ρ : Nat → Nat} (O : Onw n n' ρ) {k : Nat} (h1 : 1 ≤ k) (hk : k < n) : ρ k = ρ (k - 1) ∨ ρ k = ρ (k - 1) + 1 := by
  have hm := O.mono (k - 1) k (by omega) hk
  apply Classical.byContradiction
  intro hn
  obtain ⟨i, hi, e⟩ := O.onto (ρ (k - 1) + 1) (by have := O.lt k hk; omega)
  rcases Nat.lt_or_ge i k with h | h
  · have := O.mono i (k - 1) (by omega) (by omega); omega
  · have := O.mono k i h hi; omega
theorem Onw.mid {n n' : Nat} {ρ : Nat → Nat} (O : Onw n n' ρ) {s t x : Nat} (hs : s < n) (ht : t < n) (h : ρ s ≤ x ∧ x ≤ ρ t ∨ ρ t ≤ x ∧ x ≤ ρ s) : ∃ i, (s ≤ i ∧ i ≤ t ∨ t ≤ i ∧ i ≤ s) ∧ i < n ∧ ρ i = x := by
  have key : ∀ s t, s < n → t < n → ρ s ≤ x → x ≤ ρ t → ∃ i, (s ≤ i ∧ i ≤ t ∨ t ≤ i ∧ i ≤ s) ∧ i < n ∧ ρ i = x := fun s t hs ht h1 h2 => by
    obtain ⟨i, hi, e⟩ := O.onto x (by have := O.lt t ht; omega)
    by_cases a : i < s
    · by_cases b : s ≤ t
      · have := O.mono i s (by omega) hs
        exact ⟨s, .inl ⟨Nat.le_refl _, b⟩, hs, by omega⟩
      · by_cases c : t ≤ i
        · exact ⟨i, .inr ⟨c, by omega⟩, hi, e⟩
        · have := O.mono i t (by omega) ht
          have := O.mono t s (by omega) hs
          exact ⟨s, .inr ⟨by omega, Nat.le_refl _⟩, hs, by omega⟩
    · by_cases b : i ≤ t
      · exact ⟨i, .inl ⟨by omega, b⟩, hi, e⟩
      · have h3 := O.mono t i (by omega) hi
        by_cases c : s ≤ t
        · exact ⟨t, .inl ⟨c, Nat.le_refl _⟩, ht, by omega⟩
        · have := O.mono t s (by omega) hs
          exact ⟨s, .inr ⟨by omega, Nat.le_refl _⟩, hs, by have := O.mono s i (by omega) hi; omega⟩
  rcases h with ⟨a, b⟩ | ⟨a, b⟩
  · exact key s t hs ht a b
  · obtain ⟨i, h1, h2, h3⟩ := key t s ht hs a b
    exact ⟨i, h1.symm, h2, h3⟩
/-- where a number begins -/
theorem Onw.first {n n' : Nat} {ρ : Nat → Nat} (O : Onw n n' ρ) {x : Nat} (h1 : 1 ≤ x) (hx : x < n') : ∃ k, 1 ≤ k ∧ k < n ∧ ρ k = x ∧ ρ (k - 1) + 1 = x := by
  obtain ⟨i, hi, e⟩ := O.onto x hx
  have : ∀ m k, k < n → ρ k = x → k ≤ m → ∃ k, 1 ≤ k ∧ k < n ∧ ρ k = x ∧ ρ (k - 1) + 1 = x := by
    intro m
    induction m with
    | zero =>
      intro k hk ek hm
      obtain rfl : k = 0 := by omega
      obtain ⟨j, hj, ej⟩ := O.onto 0 (by omega)
      have := O.mono 0 j (by omega) hj
      omega
    | succ m ih =>
      intro k hk ek hm
      by_cases h0 : k = 0
      · subst h0
        obtain ⟨j, hj, ej⟩ := O.onto 0 (by omega)
        have := O.mono 0 j (by omega) hj
        omega
      · rcases O.step (by omega) hk with a | a
        · exact ih (k - 1) (by omega) (by omega) (by omega)
        · exact ⟨k, by omega, hk, ek, by omega⟩
  exact this i i hi e (Nat.le_refl _)

/-- one grid has the cells of the other one, some of them more than once -/
structure PulG (h wd h' wd' : Nat) (G g : Nat → Nat → Nat) (ρ γ τ : Nat → Nat) : Prop where
  rows : Onw h h' ρ
  cols : Onw wd wd' γ
  iff : ∀ i j i' j', i < h → j < wd → i' < h → j' < wd → (G i j = G i' j' ↔ g (ρ i) (γ j) = g (ρ i') (γ j'))
  room : ∀ i j, i < h → j < wd → τ (G i j) = g (ρ i) (γ j)
theorem PulG.left_down {h wd h' wd' : Nat} {G g : Nat → Nat → Nat} {ρ γ τ : Nat → Nat} (P : PulG h wd h' wd' G g ρ γ τ) {a b : Nat} (hj : JL h wd G a b) : JL h' wd' g (τ a) (τ b) := by
  obtain ⟨k, s, t, k1, kw, hs, ht, hall, rfl, rfl⟩ := hj
  have hne := hall s (by omega)
  have hg : g (ρ s) (γ (k - 1)) ≠ g (ρ s) (γ k) := fun e => hne ((P.iff s (k - 1) s k (by omega) (by omega) (by omega) (by omega)).2 e)
  have e1 : γ k = γ (k - 1) + 1 := by
    rcases P.cols.step k1 kw with e | e
    · exact absurd (by rw [e]) hg
    · exact e
  refine ⟨γ k, ρ s, ρ t, by omega, P.cols.lt k kw, P.rows.lt s hs, P.rows.lt t ht, fun x hx => ?_, ?_, ?_⟩
  · obtain ⟨i, hi, hin, rfl⟩ := P.rows.mid hs ht hx
    rw [show γ k - 1 = γ (k - 1) by omega]
    exact fun e => hall i hi ((P.iff i (k - 1) i k (by omega) (by omega) (by omega) (by omega)).2 e)
  · rw [show γ k - 1 = γ (k - 1) by omega]; exact (P.room s (k - 1) (by omega) (by omega)).symm
  · exact (P.room t k (by omega) (by omega)).symm
theorem PulG.left_up {h wd h' wd' : Nat} {G g : Nat → Nat → Nat} {ρ γ τ : Nat → Nat} (P : PulG h wd h' wd' G g ρ γ τ) {a b : Nat} (hj : JL h' wd' g a b) : ∃ a' b', JL h wd G a' b' ∧ τ a' = a ∧ τ b' = b ∧ (∃ i j, i < h ∧ j < wd ∧ G i j = a') ∧ (∃ i j, i < h ∧ j < wd ∧ G i j = b') := by
  obtain ⟨k', s', t', k1, kw, hs, ht, hall, rfl, rfl⟩ := hj
  obtain ⟨k, q1, q2, q3, q4⟩ := P.cols.first k1 kw
  obtain ⟨s, s1, s2⟩ := P.rows.onto s' hs
  obtain ⟨t, t1, t2⟩ := P.rows.onto t' ht
  refine ⟨G s (k - 1), G t k, ⟨k, s, t, q1, q2, s1, t1, fun i hi e => ?_, rfl, rfl⟩, ?_, ?_, ⟨_, _, by omega, by omega, rfl⟩, ⟨_, _, by omega, by omega, rfl⟩⟩
  · have hin : i < h := by omega
    have e2 := (P.iff i (k - 1) i k (by omega) (by omega) (by omega) (by omega)).1 e
    rw [show γ (k - 1) = k' - 1 by omega, q3] at e2
    refine hall (ρ i) ?_ e2
    rcases hi with ⟨u, v⟩ | ⟨u, v⟩
    · left; have := P.rows.mono s i u hin; have := P.rows.mono i t v t1; omega
    · right; have := P.rows.mono t i u hin; have := P.rows.mono i s v s1; omega
  · rw [P.room s (k - 1) (by omega) (by omega), s2, show γ (k - 1) = k' - 1 by omega]
  · rw [P.room t k (by omega) (by omega), t2, q3]
theorem PulG.above_down {h wd h' wd' : Nat} {G g : Nat → Nat → Nat} {ρ γ τ : Nat → Nat} (P : PulG h wd h' wd' G g ρ γ τ) {a b : Nat} (hj : JA h wd G a b) : JA h' wd' g (τ a) (τ b) := by
  obtain ⟨k, s, t, k1, kw, hs, ht, hall, rfl, rfl⟩ := hj
  have hne := hall s (by omega)
  have hg : g (ρ (k - 1)) (γ s) ≠ g (ρ k) (γ s) := fun e => hne ((P.iff (k - 1) s k s (by omega) (by omega) (by omega) (by omega)).2 e)
  have e1 : ρ k = ρ (k - 1) + 1 := by
    rcases P.rows.step k1 kw with e | e
    · exact absurd (by rw [e]) hg
    · exact e
  refine ⟨ρ k, γ s, γ t, by omega, P.rows.lt k kw, P.cols.lt s hs, P.cols.lt t ht, fun x hx => ?_, ?_, ?_⟩
  · obtain ⟨i, hi, hin, rfl⟩ := P.cols.mid hs ht hx
    rw [show ρ k - 1 = ρ (k - 1) by omega]
    exact fun e => hall i hi ((P.iff (k - 1) i k i (by omega) (by omega) (by omega) (by omega)).2 e)
  · rw [show ρ k - 1 = ρ (k - 1) by omega]; exact (P.room (k - 1) s (by omega) (by omega)).symm
  · exact (P.room k t (by omega) (by omega)).symm
theorem PulG.above_up {h wd h' wd' : Nat} {G g : Nat → Nat → Nat} {ρ γ τ : Nat → Nat} (P : PulG h wd h' wd' G g ρ γ τ) {a b : Nat} (hj : JA h' wd' g a b) : ∃ a' b', JA h wd G a' b' ∧ τ a' = a ∧ τ b' = b ∧ (∃ i j, i < h ∧ j < wd ∧ G i j = a') ∧ (∃ i j, i < h ∧ j < wd ∧ G i j = b') := by
  obtain ⟨k', s', t', k1, kw, hs, ht, hall, rfl, rfl⟩ := hj
  obtain ⟨k, q1, q2, q3, q4⟩ := P.rows.first k1 kw
  obtain ⟨s, s1, s2⟩ := P.cols.onto s' hs
  obtain ⟨t, t1, t2⟩ := P.cols.onto t' ht
  refine ⟨G (k - 1) s, G k t, ⟨k, s, t, q1, q2, s1, t1, fun i hi e => ?_, rfl, rfl⟩, ?_, ?_, ⟨_, _, by omega, by omega, rfl⟩, ⟨_, _, by omega, by omega, rfl⟩⟩
  · have hin : i < wd := by omega
    have e2 := (P.iff (k - 1) i k i (by omega) (by omega) (by omega) (by omega)).1 e
    rw [show ρ (k - 1) = k' - 1 by omega, q3] at e2
    refine hall (γ i) ?_ e2
    rcases hi with ⟨u, v⟩ | ⟨u, v⟩
    · left; have := P.cols.mono s i u hin; have := P.cols.mono i t v t1; omega
    · right; have := P.cols.mono t i u hin; have := P.cols.mono i s v s1; omega
  · rw [P.room (k - 1) s (by omega) (by omega), s2, show ρ (k - 1) = k' - 1 by omega]
  · rw [P.room k t (by omega) (by omega), t2, q3]

theorem up_trans {R R' : Nat → Nat → Prop} {τ : Nat → Nat} {D : Nat → Prop} (inj : ∀ a b, D a → D b → τ a = τ b → a = b) (h : ∀ a b, R' a b → ∃ a' b', R a' b' ∧ τ a' = a ∧ τ b' = b ∧ D a' ∧ D b') {x y : Nat} (hx : D x) (r : Relation.TransGen R' (τ x) y) : ∀ z, D z → τ z = y → Relation.TransGen R x z := by
  induction r with
  | single k =>
    intro z hz e
    obtain ⟨a', b', k1, k2, k3, d1, d2⟩ := h _ _ k
    obtain rfl := inj _ _ d1 hx k2
    obtain rfl := inj _ _ d2 hz (k3.trans e.symm)
    exact .single k1
  | tail _ k ih =>
    intro z hz e
    obtain ⟨a', b', k1, k2, k3, d1, d2⟩ := h _ _ k
    obtain rfl := inj _ _ d2 hz (k3.trans e.symm)
    exact .tail (ih a' d1 k2) k1
/-- the rooms of a plan that is the other one with rows and columns repeated -/
theorem pulled_rooms {p q : List ByteArray} {ρ γ : Nat → Nat} (R : Onw p.length q.length ρ) (Cc : Onw (wideB p) (wideB q) γ) (hi : ∀ i j i' j', i < p.length → j < wideB p → i' < p.length → j' < wideB p → (gridG p i j = gridG p i' j' ↔ gridG q (ρ i) (γ j) = gridG q (ρ i') (γ j'))) : ∃ τ, SamR p q τ := by
  have ex : ∃ τ : Nat → Nat, ∀ i j, i < p.length → j < wideB p → τ (gridG p i j) = gridG q (ρ i) (γ j) := by
    have : ∀ a, ∃ t, ∀ i j, i < p.length → j < wideB p → gridG p i j = a → t = gridG q (ρ i) (γ j) := fun a => by
      by_cases x : ∃ i j, i < p.length ∧ j < wideB p ∧ gridG p i j = a
      · obtain ⟨i, j, h1, h2, e⟩ := x
        exact ⟨gridG q (ρ i) (γ j), fun i' j' h3 h4 e' => (hi i j i' j' h1 h2 h3 h4).1 (by rw [e, e'])⟩
      · exact ⟨0, fun i j h1 h2 e => absurd ⟨i, j, h1, h2, e⟩ x⟩
    obtain ⟨τ, T⟩ := Classical.axiomOfChoice this
    exact ⟨τ, fun i j h1 h2 => T _ i j h1 h2 rfl⟩
  obtain ⟨τ, T⟩ := ex
  have P : PulG p.length (wideB p) q.length (wideB q) (gridG p) (gridG q) ρ γ τ := ⟨R, Cc, hi, T⟩
  have tlt : ∀ a, a < gridR p → τ a < gridR q := fun a ha => by
    obtain ⟨i, j, h1, h2, rfl⟩ := room_at ha
    rw [T i j h1 h2]; exact gridG_lt (R.lt i h1) (Cc.lt j h2)
  have inj : ∀ a b, a < gridR p → b < gridR p → τ a = τ b → a = b := fun a b ha hb e => by
    obtain ⟨i, j, h1, h2, rfl⟩ := room_at ha
    obtain ⟨i', j', h3, h4, rfl⟩ := room_at hb
    rw [T i j h1 h2, T i' j' h3 h4] at e
    exact (hi i j i' j' h1 h2 h3 h4).2 e
  have onto : ∀ b, b < gridR q → ∃ a, a < gridR p ∧ τ a = b := fun b hb => by
    obtain ⟨i, j, h1, h2, rfl⟩ := room_at hb
    obtain ⟨i', q1, rfl⟩ := R.onto i h1
    obtain ⟨j', q2, rfl⟩ := Cc.onto j h2
    exact ⟨gridG p i' j', gridG_lt q1 q2, T i' j' q1 q2⟩
  have rm : gridR q = gridR p := by
    apply Nat.le_antisymm
    · obtain ⟨σ, hσ⟩ : ∃ σ : Nat → Nat, ∀ b, b < gridR q → σ b < gridR p ∧ τ (σ b) = b := by
        have : ∀ b, ∃ a, b < gridR q → a < gridR p ∧ τ a = b := fun b => by
          by_cases hb : b < gridR q
          · obtain ⟨a, ha⟩ := onto b hb; exact ⟨a, fun _ => ha⟩
          · exact ⟨0, fun h => absurd h hb⟩
        exact Classical.axiomOfChoice this
      have := nodup_lt (gridR p) ((List.range (gridR q)).map σ) (by
        unfold List.Nodup
        rw [List.pairwise_map]
        refine List.Pairwise.imp_of_mem ?_ List.pairwise_lt_range
        intro a b ha hb hab e
        have h1 := (hσ a (List.mem_range.1 ha)).2; have h2 := (hσ b (List.mem_range.1 hb)).2
        rw [e] at h1; omega) (fun z hz => by
        obtain ⟨a, ha, rfl⟩ := List.mem_map.1 hz
        exact (hσ a (List.mem_range.1 ha)).1)
      simpa using this
    · have := nodup_lt (gridR q) ((List.range (gridR p)).map τ) (by
        unfold List.Nodup
        rw [List.pairwise_map]
        refine List.Pairwise.imp_of_mem ?_ List.pairwise_lt_range
        intro a b ha hb hab e
        have := inj a b (List.mem_range.1 ha) (List.mem_range.1 hb) e
        omega) (fun z hz => by
        obtain ⟨a, ha, rfl⟩ := List.mem_map.1 hz
        exact tlt a (List.mem_range.1 ha))
      simpa using this
  have cl : ∀ a, (∃ i j, i < p.length ∧ j < wideB p ∧ gridG p i j = a) → a < gridR p := by
    rintro a ⟨i, j, h1, h2, rfl⟩; exact gridG_lt h1 h2
  refine ⟨τ, rm, fun a ha => rm ▸ tlt a ha, inj, fun b hb => onto b (by omega), fun a b ha hb => ?_, fun a b ha hb => ?_⟩
  · rw [Bool.eq_iff_iff, pL_left, pL_left]
    constructor
    · intro k
      exact up_trans (D := fun a => a < gridR p) inj (fun x y hxy => by
        obtain ⟨a', b', k1, k2, k3, k4, k5⟩ := P.left_up hxy
        exact ⟨a', b', k1, k2, k3, cl a' k4, cl b' k5⟩) ha k b hb rfl
    · exact fun k => trans_map (fun _ _ x => P.left_down x) k
  · rw [Bool.eq_iff_iff, pL_above, pL_above]
    constructor
    · intro k
      exact up_trans (D := fun a => a < gridR p) inj (fun x y hxy => by
        obtain ⟨a', b', k1, k2, k3, k4, k5⟩ := P.above_up hxy
        exact ⟨a', b', k1, k2, k3, cl a' k4, cl b' k5⟩) ha k b hb rfl
    · exact fun k => trans_map (fun _ _ x => P.above_down x) k
/-! ## plans made tight -/
theorem keep_onw {same : Nat → Bool} {n : Nat} : ∃ ρ, Onw n (keepL same n).length ρ ∧ ∀ i, i < n → nthK same n (ρ i) ≤ i ∧ ∀ u, nthK same n (ρ i) < u → u ≤ i → same u = true := by
  have : ∀ i, ∃ t, i < n → t < (keepL same n).length ∧ nthK same n t ≤ i ∧ ∀ u, nthK same n t < u → u ≤ i → same u = true := fun i => by
    by_cases hi : i < n
    · obtain ⟨t, ht⟩ := nthK_rep (same := same) i hi; exact ⟨t, fun _ => ht⟩
    · exact ⟨0, fun h => absurd h hi⟩
  obtain ⟨ρ, hρ⟩ := Classical.axiomOfChoice this
  have mono : ∀ i j, i ≤ j → j < n → ρ i ≤ ρ j := fun i j hij hj => by
    obtain ⟨a1, a2, a3⟩ := hρ i (by omega)
    obtain ⟨b1, b2, b3⟩ := hρ j hj
    apply Classical.byContradiction
    intro hn
    have hm := nthK_mono (same := same) (n := n) (show ρ j < ρ i by omega) a1
    have hk := b3 (nthK same n (ρ i)) hm (by omega)
    rcases nthK_kept a1 with e | e
    · omega
    · rw [e] at hk; cases hk
  refine ⟨ρ, ⟨fun i hi => (hρ i hi).1, mono, fun x hx => ⟨nthK same n x, nthK_lt hx, ?_⟩⟩, fun i hi => (hρ i hi).2⟩
  obtain ⟨a1, a2, a3⟩ := hρ (nthK same n x) (nthK_lt hx)
  rcases Nat.lt_trichotomy (ρ (nthK same n x)) x with k | k | k
  · have hm := nthK_mono (same := same) (n := n) k hx
    have hk := a3 (nthK same n x) hm (Nat.le_refl _)
    rcases nthK_kept hx with e | e
    · omega
    · rw [e] at hk; cases hk
  · exact k
  · have := nthK_mono (same := same) (n := n) k a1; omega
theorem tight_same {p : List ByteArray} (h : planB p = true) : ∃ τ, SamR p (tightB p) τ := by
  have x := is_tight h
  have hr := tight_rep h
  obtain ⟨ρ, R, hρ⟩ := keep_onw (same := srG (gridG p)) (n := p.length)
  obtain ⟨γ, Cc, hγ⟩ := keep_onw (same := scG (gridG p) p.length) (n := wideB p)
  have hl := x.len; have hw := x.wide
  have rowE : ∀ j, j < wideB p → ∀ m i, i < p.length → i ≤ nthK (srG (gridG p)) p.length (ρ i) + m → gridG p i j = gridG p (nthK (srG (gridG p)) p.length (ρ i)) j := fun j hj => by
    intro m i hi hm
    obtain ⟨a2, a3⟩ := hρ i hi
    generalize nthK (srG (gridG p)) p.length (ρ i) = k at *
    have : ∀ u, k ≤ u → u ≤ i → gridG p u j = gridG p k j := by
      intro u hk hu
      induction u with
      | zero => rw [show k = 0 by omega]
      | succ u ih =>
        by_cases e : k = u + 1
        · rw [e]
        · rw [hr.rows (u + 1) (by omega) (by omega) (a3 (u + 1) (by omega) hu) j hj, show u + 1 - 1 = u by omega]
          exact ih (by omega) (by omega)
    exact this i a2 (Nat.le_refl _)
  have colE : ∀ i, i < p.length → ∀ j, j < wideB p → gridG p i j = gridG p i (nthK (scG (gridG p) p.length) (wideB p) (γ j)) := fun i hi j hj => by
    obtain ⟨a2, a3⟩ := hγ j hj
    generalize nthK (scG (gridG p) p.length) (wideB p) (γ j) = k at *
    have : ∀ u, k ≤ u → u ≤ j → gridG p i u = gridG p i k := by
      intro u hk hu
      induction u with
      | zero => rw [show k = 0 by omega]
      | succ u ih =>
        by_cases e : k = u + 1
        · rw [e]
        · rw [hr.cols (u + 1) (by omega) (by omega) (a3 (u + 1) (by omega) hu) i hi, show u + 1 - 1 = u by omega]
          exact ih (by omega) (by omega)
    exact this j a2 (Nat.le_refl _)
  have cell : ∀ i j, i < p.length → j < wideB p → gridG p i j = tightM (gridG p) (srG (gridG p)) (scG (gridG p) p.length) p.length (wideB p) (ρ i) (γ j) := fun i j hi hj => by
    unfold tightM
    rw [rowE j hj i i hi (by omega), colE _ (nthK_lt (R.lt i hi)) j hj]
  refine pulled_rooms (ρ := ρ) (γ := γ) (by rw [hl]; exact R) (by rw [hw]; exact Cc) fun i j i' j' hi hj hi' hj' => ?_
  rw [cell i j hi hj, cell i' j' hi' hj']
  have := x.same (ρ i') (γ j') (ρ i) (γ j) (R.lt i' hi') (Cc.lt j' hj') (R.lt i hi) (Cc.lt j hj)
  exact this.symm
theorem plain_of_tight {p : List ByteArray} (h : plainB p = true) : plainB (tightB p) = true := by
  have hp := plainB_plan h
  rw [plain_is (is_tight hp).plan]
  have h0 : meetN p 4 = 0 := by rw [plain_is hp, decide_eq_true_eq] at h; exact h
  exact decide_eq_true (plain_tight hp h0)
/-! ## plans made wide -/
theorem plain_wide {p : List ByteArray} (h : plainB p = true) (hw : wideOk p 2 = true) : plainB (namesB (spreadB p 2)) = true := by
  have x := is_wide hw
  have nx := noX_of h
  rw [plain_is x.plan, meetN_is x, decide_eq_true_eq, metC_zero]
  intro i k hi hk
  cases hm : metG (fun i j => gridG p (i / 2) (j / 2)) 4 i k
  · rfl
  · exfalso
    unfold metG at hm
    simp only [Bool.and_eq_true, decide_eq_true_eq] at hm
    obtain ⟨⟨a, b⟩, c⟩ := hm
    rw [meetG_four] at c
    obtain ⟨c1, c2, c3, c4, c5, c6⟩ := c
    have c1' : gridG p ((i - 1) / 2) (k / 2) ≠ gridG p ((i - 1) / 2) ((k - 1) / 2) := c1
    have c2' : gridG p (i / 2) ((k - 1) / 2) ≠ gridG p ((i - 1) / 2) ((k - 1) / 2) := c2
    have c5' : gridG p (i / 2) (k / 2) ≠ gridG p ((i - 1) / 2) (k / 2) := c5
    have c6' : gridG p (i / 2) (k / 2) ≠ gridG p (i / 2) ((k - 1) / 2) := c6
    have hi2 : (i - 1) / 2 ≠ i / 2 := fun e => c2' (by rw [e])
    have hk2 : (k - 1) / 2 ≠ k / 2 := fun e => c1' (by rw [e])
    have ei : (i - 1) / 2 = i / 2 - 1 := by omega
    have ek : (k - 1) / 2 = k / 2 - 1 := by omega
    rw [ei, ek] at c1' c2'
    rw [ei] at c5'
    rw [ek] at c6'
    exact nx (i / 2) (k / 2) (by omega) (by omega) (by omega) (by omega) ⟨fun e => c1' e.symm, fun e => c6' e.symm, fun e => c2' e.symm, fun e => c5' e.symm⟩
/-- what the law of permutations of plans asks -/
theorem perm_math {p : List ByteArray} (h : plainB p = true) : plainB (tightB p) = true ∧ permL (tightB p) = permL p ∧ (wideOk p 2 = true → plainB (namesB (spreadB p 2)) = true ∧ permL (namesB (spreadB p 2)) = permL p) := by
  have hp := plainB_plan h
  obtain ⟨τ, T⟩ := tight_same hp
  have ht := plain_of_tight h
  refine ⟨ht, T.perm h ht, fun hw => ?_⟩
  have hq := plain_wide h hw
  refine ⟨hq, ?_⟩
  obtain ⟨σ, S⟩ := tight_same (plainB_plan hq)
  have e1 := S.perm hq (plain_of_tight hq)
  rw [tight_wide hw, T.perm h ht] at e1
  exact e1.symm
end Go.Proofs.Ytamfnahbhhmiiaa

/-
  For every slice of bytes the law FnPerm returns true, and the slice reads behind the call as it read before. No condition.
-/
namespace Go.Proofs.Ytamfnahbhhmiiaa
open Go.ChangeShapes Go.WideShapes Go.ChangeAt Go.RowKit

set_option maxRecDepth 100000 in
set_option maxHeartbeats 4000000 in
theorem fnPerm_all (aC : Option Addr) (kC : Nat) (lC : List UInt8) (w : World) (mC : lC.length ≤ maxLen) (zC : lC.length ≤ kC) (cC : CellsAt w aC (lC.map byteV)) :
    Calls Try.prog 4 #[.slice aC lC.length kC] w fun e w' => e = .returned (.bool true) ∧ Below w.heap.size w w' := by
  have mC2 := mC
  clear mC2
  by_cases dC : lC.length ≤ 1048576
  · have hdC : decide (1048576 < (lC.length : Int)) = false := by rw [decide_eq_false_iff_not]; omega
    go_enter Try.func4, Try.ntmps4
    go_wp2_with fail
    refine (drawOrderPerm_any _ _ _ _ zC dC cC).mono ?_
    rintro e w1 ⟨⟨roP, rcP, lP, hsm, rfl, c_P⟩, hb⟩
    have hB := hb
    clear hb
    have LP : lP.length ≤ 1048576 := by have := hsm.2.1; omega
    have SP : ∀ s ∈ lP, s.size ≤ 1048576 := fun s h => by have := hsm.2.2 s h; omega
    cases hp : plainB lP
    · -- no plain plan
      have HI := Lib.hid (fun w c => implOrderPerm_any roP rcP lP w LP SP c)
      have HS := Lib.hid (fun w c => specOrderPerm_any roP rcP lP w LP SP c)
      rw [hp, permL_no hp, show intsL [] = [] from rfl] at HI HS
      clear hp
      go_wp2_with fail
      refine (HI.out _ c_P).mono ?_
      rintro e w2 ⟨⟨roO, rcO, rfl, ow⟩, hb⟩
      replace c_P := c_P.below hb
      replace hB := below_step hB hB.size hb
      clear hb
      have c_O := owns_cells ow
      clear ow
      go_wp2_with fail
      refine (HS.out _ c_P).mono ?_
      rintro e w3 ⟨⟨roW, rcW, rfl, ow⟩, hb⟩
      replace c_P := c_P.below hb
      replace c_O := c_O.below hb
      replace hB := below_step hB hB.size hb
      clear hb
      have c_W := owns_cells ow
      clear ow
      go_wp2_with fail
      refine (sameInts_any _ _ _ _ _ _ [] [] _ rfl rfl (by exact Nat.zero_le _) c_O c_W).mono ?_
      rw [eqI_self]
      rintro e w4 ⟨rfl, hq⟩
      have hb := quiet_below hq
      clear hq
      replace c_P := c_P.below hb
      replace c_O := c_O.below hb
      replace c_W := c_W.below hb
      replace hB := below_step hB hB.size hb
      clear hb
      go_wp2_with fail
      refine (sameInts_any _ _ _ _ _ _ [] [] _ rfl rfl (by exact Nat.zero_le _) c_O c_W).mono ?_
      rw [eqI_self]
      rintro e w5 ⟨rfl, hq⟩
      have hb := quiet_below hq
      clear hq
      replace c_P := c_P.below hb
      replace c_O := c_O.below hb
      replace c_W := c_W.below hb
      replace hB := below_step hB hB.size hb
      clear hb
      go_wp2
      go_ret
      exact ⟨rfl, hB⟩
    · cases hw : wideOk lP 2
      · -- not told when wide
        have HI := Lib.hid (fun w c => implOrderPerm_any roP rcP lP w LP SP c)
        have HS := Lib.hid (fun w c => specOrderPerm_any roP rcP lP w LP SP c)
        have HG := Lib.hid (fun w c => implTight_any roP rcP lP w LP SP c)
        have HW := Lib.hid (fun w c => implWide_any roP rcP lP 2 w LP SP c)
        obtain ⟨m1, m2, m3⟩ := perm_math hp
        have hpl := plainB_plan hp
        have hto := plainB_plan m1
        have LG := (plan_small hto).1
        have SG := (plan_small hto).2
        have HX := Lib.hid (fun ro rc w c => implOrderPerm_any ro rc (tightB lP) w LG SG c)
        rw [hp] at HI HS
        rw [hpl, orNone_yes rfl] at HG
        rw [m1, m2] at HX
        have HY := Lib.hid (fun ro rc w c => implOrderPerm_any ro rc [] w (Nat.zero_le _) (fun s hs => by cases hs) c)
        rw [hw, orNone_no rfl] at HW
        have hpn : plainB ([] : List ByteArray) = false := rfl
        rw [hpn, permL_no hpn, show intsL [] = [] from rfl] at HY
        clear hpn
        have hl9 : (permL lP).length ≤ 9 := by rw [permL_len]; exact oR_le lP
        obtain ⟨L, hL⟩ : ∃ L, L = intsL (permL lP) := ⟨_, rfl⟩
        rw [← hL] at HI HS HX
        have hLl : L.length ≤ maxLen := by rw [hL, intsL_len]; unfold maxLen; omega
        clear hL hl9 m1 m2 m3 hto hpl hp hw
        generalize tightB lP = T at *
        go_wp2_with fail
        refine (HI.out _ c_P).mono ?_
        rintro e w6 ⟨⟨roO, rcO, rfl, ow⟩, hb⟩
        replace c_P := c_P.below hb
        replace hB := below_step hB hB.size hb
        clear hb
        have c_O := owns_cells ow
        clear ow
        go_wp2_with fail
        refine (HS.out _ c_P).mono ?_
        rintro e w7 ⟨⟨roW, rcW, rfl, ow⟩, hb⟩
        replace c_P := c_P.below hb
        replace c_O := c_O.below hb
        replace hB := below_step hB hB.size hb
        clear hb
        have c_W := owns_cells ow
        clear ow
        go_wp2_with fail
        refine (sameInts_any _ _ _ _ _ _ L L _ rfl rfl hLl c_O c_W).mono ?_
        rw [eqI_self]
        rintro e w8 ⟨rfl, hq⟩
        have hb := quiet_below hq
        clear hq
        replace c_P := c_P.below hb
        replace c_O := c_O.below hb
        replace c_W := c_W.below hb
        replace hB := below_step hB hB.size hb
        clear hb
        go_wp2_with fail
        refine (HG.out _ c_P).mono ?_
        rintro e w9 ⟨⟨roG, rcG, rfl, ow⟩, hb⟩
        replace c_P := c_P.below hb
        replace c_O := c_O.below hb
        replace c_W := c_W.below hb
        replace hB := below_step hB hB.size hb
        clear hb
        have c_G := owns_cells ow
        clear ow
        go_wp2_with fail
        refine (HX.out _ _ _ c_G).mono ?_
        rintro e w10 ⟨⟨roX, rcX, rfl, ow⟩, hb⟩
        replace c_P := c_P.below hb
        replace c_O := c_O.below hb
        replace c_W := c_W.below hb
        replace c_G := c_G.below hb
        replace hB := below_step hB hB.size hb
        clear hb
        have c_X := owns_cells ow
        clear ow
        go_wp2_with fail
        refine (HW.out _ c_P).mono ?_
        rintro e w11 ⟨⟨roV, rcV, rfl, ow⟩, hb⟩
        replace c_P := c_P.below hb
        replace c_O := c_O.below hb
        replace c_W := c_W.below hb
        replace c_G := c_G.below hb
        replace c_X := c_X.below hb
        replace hB := below_step hB hB.size hb
        clear hb
        have c_V := owns_cells ow
        clear ow
        go_wp2_with fail
        refine (HY.out _ _ _ c_V).mono ?_
        rintro e w12 ⟨⟨roY, rcY, rfl, ow⟩, hb⟩
        replace c_P := c_P.below hb
        replace c_O := c_O.below hb
        replace c_W := c_W.below hb
        replace c_G := c_G.below hb
        replace c_X := c_X.below hb
        replace c_V := c_V.below hb
        replace hB := below_step hB hB.size hb
        clear hb
        have c_Y := owns_cells ow
        clear ow
        go_wp2_with fail
        refine (sameInts_any _ _ _ _ _ _ L L _ rfl rfl hLl c_X c_O).mono ?_
        rw [eqI_self]
        rintro e w13 ⟨rfl, hq⟩
        have hb := quiet_below hq
        clear hq
        replace c_P := c_P.below hb
        replace c_O := c_O.below hb
        replace c_W := c_W.below hb
        replace c_G := c_G.below hb
        replace c_X := c_X.below hb
        replace c_V := c_V.below hb
        replace c_Y := c_Y.below hb
        replace hB := below_step hB hB.size hb
        clear hb
        go_wp2
        go_ret
        exact ⟨rfl, hB⟩
      · -- wide
        have HI := Lib.hid (fun w c => implOrderPerm_any roP rcP lP w LP SP c)
        have HS := Lib.hid (fun w c => specOrderPerm_any roP rcP lP w LP SP c)
        have HG := Lib.hid (fun w c => implTight_any roP rcP lP w LP SP c)
        have HW := Lib.hid (fun w c => implWide_any roP rcP lP 2 w LP SP c)
        obtain ⟨m1, m2, m3⟩ := perm_math hp
        have hpl := plainB_plan hp
        have hto := plainB_plan m1
        have LG := (plan_small hto).1
        have SG := (plan_small hto).2
        have HX := Lib.hid (fun ro rc w c => implOrderPerm_any ro rc (tightB lP) w LG SG c)
        rw [hp] at HI HS
        rw [hpl, orNone_yes rfl] at HG
        rw [m1, m2] at HX
        obtain ⟨q1, q2⟩ := m3 hw
        have hwo := plainB_plan q1
        have LW := (plan_small hwo).1
        have SW := (plan_small hwo).2
        have HY := Lib.hid (fun ro rc w c => implOrderPerm_any ro rc (namesB (spreadB lP 2)) w LW SW c)
        rw [hw, orNone_yes rfl, show (2 : Int).toNat = 2 from rfl] at HW
        rw [q1, q2] at HY
        clear q1 q2 hwo
        have hl9 : (permL lP).length ≤ 9 := by rw [permL_len]; exact oR_le lP
        obtain ⟨L, hL⟩ : ∃ L, L = intsL (permL lP) := ⟨_, rfl⟩
        rw [← hL] at HI HS HX HY
        have hLl : L.length ≤ maxLen := by rw [hL, intsL_len]; unfold maxLen; omega
        clear hL hl9 m1 m2 m3 hto hpl hp hw
        generalize tightB lP = T at *
        generalize namesB (spreadB lP 2) = X at *
        go_wp2_with fail
        refine (HI.out _ c_P).mono ?_
        rintro e w6 ⟨⟨roO, rcO, rfl, ow⟩, hb⟩
        replace c_P := c_P.below hb
        replace hB := below_step hB hB.size hb
        clear hb
        have c_O := owns_cells ow
        clear ow
        go_wp2_with fail
        refine (HS.out _ c_P).mono ?_
        rintro e w7 ⟨⟨roW, rcW, rfl, ow⟩, hb⟩
        replace c_P := c_P.below hb
        replace c_O := c_O.below hb
        replace hB := below_step hB hB.size hb
        clear hb
        have c_W := owns_cells ow
        clear ow
        go_wp2_with fail
        refine (sameInts_any _ _ _ _ _ _ L L _ rfl rfl hLl c_O c_W).mono ?_
        rw [eqI_self]
        rintro e w8 ⟨rfl, hq⟩
        have hb := quiet_below hq
        clear hq
        replace c_P := c_P.below hb
        replace c_O := c_O.below hb
        replace c_W := c_W.below hb
        replace hB := below_step hB hB.size hb
        clear hb
        go_wp2_with fail
        refine (HG.out _ c_P).mono ?_
        rintro e w9 ⟨⟨roG, rcG, rfl, ow⟩, hb⟩
        replace c_P := c_P.below hb
        replace c_O := c_O.below hb
        replace c_W := c_W.below hb
        replace hB := below_step hB hB.size hb
        clear hb
        have c_G := owns_cells ow
        clear ow
        go_wp2_with fail
        refine (HX.out _ _ _ c_G).mono ?_
        rintro e w10 ⟨⟨roX, rcX, rfl, ow⟩, hb⟩
        replace c_P := c_P.below hb
        replace c_O := c_O.below hb
        replace c_W := c_W.below hb
        replace c_G := c_G.below hb
        replace hB := below_step hB hB.size hb
        clear hb
        have c_X := owns_cells ow
        clear ow
        go_wp2_with fail
        refine (HW.out _ c_P).mono ?_
        rintro e w11 ⟨⟨roV, rcV, rfl, ow⟩, hb⟩
        replace c_P := c_P.below hb
        replace c_O := c_O.below hb
        replace c_W := c_W.below hb
        replace c_G := c_G.below hb
        replace c_X := c_X.below hb
        replace hB := below_step hB hB.size hb
        clear hb
        have c_V := owns_cells ow
        clear ow
        go_wp2_with fail
        refine (HY.out _ _ _ c_V).mono ?_
        rintro e w12 ⟨⟨roY, rcY, rfl, ow⟩, hb⟩
        replace c_P := c_P.below hb
        replace c_O := c_O.below hb
        replace c_W := c_W.below hb
        replace c_G := c_G.below hb
        replace c_X := c_X.below hb
        replace c_V := c_V.below hb
        replace hB := below_step hB hB.size hb
        clear hb
        have c_Y := owns_cells ow
        clear ow
        go_wp2_with fail
        refine (sameInts_any _ _ _ _ _ _ L L _ rfl rfl hLl c_X c_O).mono ?_
        rw [eqI_self]
        rintro e w13 ⟨rfl, hq⟩
        have hb := quiet_below hq
        clear hq
        replace c_P := c_P.below hb
        replace c_O := c_O.below hb
        replace c_W := c_W.below hb
        replace c_G := c_G.below hb
        replace c_X := c_X.below hb
        replace c_V := c_V.below hb
        replace c_Y := c_Y.below hb
        replace hB := below_step hB hB.size hb
        clear hb
        go_wp2_with fail
        refine (sameInts_any _ _ _ _ _ _ L L _ rfl rfl hLl c_Y c_O).mono ?_
        rw [eqI_self]
        rintro e w14 ⟨rfl, hq⟩
        have hb := quiet_below hq
        clear hq
        replace c_P := c_P.below hb
        replace c_O := c_O.below hb
        replace c_W := c_W.below hb
        replace c_G := c_G.below hb
        replace c_X := c_X.below hb
        replace c_V := c_V.below hb
        replace c_Y := c_Y.below hb
        replace hB := below_step hB hB.size hb
        clear hb
        go_wp2
        go_ret
        exact ⟨rfl, hB⟩
  · have hdC : decide (1048576 < (lC.length : Int)) = true := by rw [decide_eq_true_eq]; omega
    go_enter Try.func4, Try.ntmps4
    go_wp2
    go_ret
    exact ⟨rfl, Below.refl _ _⟩

set_option maxRecDepth 100000 in
theorem fnPerm_lifted (os : Os) (started : os.Started) (H : Type) (enc : TypeId × Value → H) :
    ReturnsInHanded {} Try.checked os 4 .any (Rows.fnPermSpec.pre6 enc Try.prog Try.f4 Rows.fnPermRow.domain false) (Rows.fnPermSpec.post enc Try.prog Try.f4 false true false false) := by
  refine returnsInHanded_of_change (C := Try.checked) Try.own started (by kernel_rfl) Try.func4
    (ChangeSpec.witness6 (enc := enc) (C := Try.checked) false ⟨#[], #[.slice none 0 0], []⟩ 8 (by kernel_rfl) (by kernel_rfl) (by kernel_rfl) (by kernel_rfl)) ?_
  intro W base args ds gs before hval0 hW _ _
  have hval : ∀ (j : Nat) t v, Try.f4.params[j]? = some t → args[j]? = some v → Value.okWide Try.prog W .any base t v := hval0
  have hW' := hW
  obtain ⟨p, q, hA0, hV, rfl, _, _⟩ := hW
  have hA : DataW.TrodAll enc Try.prog W 0 (fun _ => true) true Try.f4.params.toList args.toList ds p := hA0
  rw [Try.params4] at hA hval
  obtain ⟨v0, d0, rfl, rfl, h0⟩ := trodAll_one hA
  obtain ⟨rfl, rfl⟩ := trodVars_none hV
  obtain ⟨aC, eC, kC, rfl⟩ := okWide_slice Try.underlying22 (hval 0 22 v0 rfl rfl)
  clear hA0 hval0
  simp only [List.append_nil] at hW'
  have hlt0 : ∀ x ∈ p, x.block < W.heap.size := fun x hx => by simpa using hW'.lt x (by simp [hx])
  obtain ⟨lC, rfl, mC, zC, cC⟩ := open_bytes h0
  refine (fnPerm_all aC kC lC W mC zC cC).mono fun e W' ⟨he, hb⟩ => ?_
  subst he
  refine ⟨_, rfl, _, _, _, [], _, [], hW', trodAll_mk1 (shut_bool Try.underlying4 _), trodAll_mk1 (Below.trod Try.laidOut (by kernel_rfl) (of_decide_eq_true (by kernel_rfl)) h0 hb hlt0), rfl, hb.frame _, fun h => by cases h⟩

theorem fnPerm_holds : Rows.FnPermSaid :=
  OpenClaim.holds_of_wide 4 Try.f4 rfl rfl rfl rfl rfl rfl rfl ⟨rfl, rfl, rfl, rfl, rfl⟩ rfl rfl rfl rfl rfl (by kernel_rfl) Try.func4 (by kernel_rfl)
    (of_decide_eq_true (by kernel_rfl)) (by unfold Func.isWrapper; first | (rw [if_pos (by decide +kernel)]; kernel_rfl) | (rw [if_neg (by decide +kernel)]; exact ⟨rfl, rfl⟩))
    (fun os started H enc _ => fnPerm_lifted os started H enc)

end Go.Proofs.Ytamfnahbhhmiiaa
