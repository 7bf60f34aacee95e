
/-
  Plans turned and read backwards have the same neighbours, under other numbers: so the same steps and as many colours. (Plain mathematics.)
-/
import Derived.Test.YtkbgkkempooplaaNearD
import Derived.Test.YtkbgkkempooplaaBfsF
import Derived.Test.YtkbgkkempooplaaIs

namespace Go.Proofs.Ytkbgkkempooplaa
open Go.RowKit

/-- two rooms have cells beside each other -/
def AdjG (G : Nat → Nat → Nat) (h wd a b : Nat) : Prop :=
  (∃ i j, i < h ∧ j + 1 < wd ∧ ((G i j = a ∧ G i (j + 1) = b) ∨ (G i j = b ∧ G i (j + 1) = a))) ∨ (∃ i j, i + 1 < h ∧ j < wd ∧ ((G i j = a ∧ G (i + 1) j = b) ∨ (G i j = b ∧ G (i + 1) j = a)))
theorem hitsG_some {G : Nat → Nat → Nat} {h wd a b : Nat} (hp : 0 < hitsG G h wd a b) : ∃ i j, i < h ∧ j + 1 < wd ∧ ((G i j = a ∧ G i (j + 1) = b) ∨ (G i j = b ∧ G i (j + 1) = a)) := by
  unfold hitsG at hp
  obtain ⟨i, hi, h1⟩ := sumN_some hp
  obtain ⟨t, ht, h2⟩ := sumN_some h1
  by_cases hh : hitG G a b i (t + 1) = true
  · unfold hitG at hh
    rw [decide_eq_true_eq, Nat.add_sub_cancel] at hh
    exact ⟨i, t, hi, by omega, hh⟩
  · rw [if_neg hh] at h2; omega
theorem near_adj {p : List ByteArray} (h : planB p = true) {a b : Nat} (hab : a ≠ b) : 0 < besN p (a : Int) (b : Int) ↔ AdjG (gridG p) p.length (wideB p) a b := by
  constructor
  · intro hp
    rw [besN_hits h hab] at hp
    rcases Nat.eq_zero_or_pos (hitsG (gridG p) p.length (wideB p) a b) with h0 | h0
    · obtain ⟨j, i, hj, hi, k⟩ := hitsG_some (G := fun j i => gridG p i j) (show 0 < hitsG (fun j i => gridG p i j) (wideB p) p.length a b by omega)
      exact .inr ⟨i, j, hi, hj, k⟩
    · exact .inl (hitsG_some h0)
  · rintro (⟨i, j, hi, hj, ⟨rfl, rfl⟩ | ⟨rfl, rfl⟩⟩ | ⟨i, j, hi, hj, ⟨rfl, rfl⟩ | ⟨rfl, rfl⟩⟩)
    · exact near_row h hi hj hab
    · rw [besN_symm h]; exact near_row h hi hj (Ne.symm hab)
    · exact near_col h hi hj hab
    · rw [besN_symm h]; exact near_col h hi hj (Ne.symm hab)

/-- rooms under other numbers, with the same neighbours -/
structure NmR (p q : List ByteArray) (τ : Nat → Nat) : Prop where
  rooms : gridR q = gridR p
  lt : ∀ a, a < gridR p → τ a < gridR p
  inj : ∀ a b, a < gridR p → b < gridR p → τ a = τ b → a = b
  onto : ∀ b, b < gridR p → ∃ a, a < gridR p ∧ τ a = b
  near : ∀ a b, a < gridR p → b < gridR p → a ≠ b → (0 < besN q (τ a : Nat) (τ b : Nat) ↔ 0 < besN p (a : Int) (b : Int))

theorem cell_room2 {p : List ByteArray} (h : planB p = true) {r : Nat} (hr : r < gridR p) : ∃ i j, i < p.length ∧ j < wideB p ∧ gridG p i j = r := by
  have hp := planP_of h
  obtain ⟨_, hbox⟩ := hp.boxes
  obtain ⟨x, _, _, x1, x2, x3, x4, x5⟩ := hbox r hr
  refine ⟨x.row, x.col, by omega, by omega, ?_⟩
  rw [← hp.mark _ _ (by omega) (by omega)]
  exact (x5 _ _ (by omega) (by omega)).2 (by unfold InR; omega)

theorem range_onto {r s : Nat} {τ : Nat → Nat} (lt : ∀ a, a < r → τ a < s) (inj : ∀ a b, a < r → b < r → τ a = τ b → a = b) : r ≤ s := by
  have hn : ((List.range r).map τ).Nodup := by
    unfold List.Nodup
    rw [List.pairwise_map]
    refine List.Pairwise.imp_of_mem ?_ List.pairwise_lt_range
    intro a b ha hb hab e
    have := inj a b (List.mem_range.1 ha) (List.mem_range.1 hb) e
    omega
  have := nodup_lt s _ hn (fun z hz => by
    obtain ⟨a, ha, rfl⟩ := List.mem_map.1 hz
    exact lt a (List.mem_range.1 ha))
  simpa using this

/-- one grid is another one's, its cells at other places: φ takes cells to cells, beside each other if they are -/
structure MvG (h wd h' wd' : Nat) (φ : Nat → Nat → Nat × Nat) (ψ : Nat → Nat → Nat × Nat) : Prop where
  lt : ∀ i j, i < h → j < wd → (φ i j).1 < h' ∧ (φ i j).2 < wd'
  lt' : ∀ i j, i < h' → j < wd' → (ψ i j).1 < h ∧ (ψ i j).2 < wd
  back : ∀ i j, i < h' → j < wd' → φ (ψ i j).1 (ψ i j).2 = (i, j)
  adj : ∀ (G : Nat → Nat → Nat) a b, AdjG (fun i j => G (φ i j).1 (φ i j).2) h wd a b ↔ AdjG G h' wd' a b

theorem adj_map {G K : Nat → Nat → Nat} {h wd a b : Nat} {τ : Nat → Nat} {r : Nat} (lt : ∀ i j, i < h → j < wd → G i j < r) (inj : ∀ a b, a < r → b < r → τ a = τ b → a = b) (hK : ∀ i j, i < h → j < wd → K i j = τ (G i j)) (ha : a < r) (hb : b < r) :
    AdjG K h wd (τ a) (τ b) ↔ AdjG G h wd a b := by
  have e : ∀ i j c, i < h → j < wd → c < r → (K i j = τ c ↔ G i j = c) := fun i j c hi hj hc => by
    rw [hK i j hi hj]
    exact ⟨fun k => inj _ _ (lt i j hi hj) hc k, fun k => by rw [k]⟩
  unfold AdjG
  constructor
  · rintro (⟨i, j, hi, hj, k⟩ | ⟨i, j, hi, hj, k⟩)
    · rw [e i j a hi (by omega) ha, e i j b hi (by omega) hb, e i (j + 1) a hi hj ha, e i (j + 1) b hi hj hb] at k
      exact .inl ⟨i, j, hi, hj, k⟩
    · rw [e i j a (by omega) hj ha, e i j b (by omega) hj hb, e (i + 1) j a hi hj ha, e (i + 1) j b hi hj hb] at k
      exact .inr ⟨i, j, hi, hj, k⟩
  · rintro (⟨i, j, hi, hj, k⟩ | ⟨i, j, hi, hj, k⟩)
    · rw [← e i j a hi (by omega) ha, ← e i j b hi (by omega) hb, ← e i (j + 1) a hi hj ha, ← e i (j + 1) b hi hj hb] at k
      exact .inl ⟨i, j, hi, hj, k⟩
    · rw [← e i j a (by omega) hj ha, ← e i j b (by omega) hj hb, ← e (i + 1) j a hi hj ha, ← e (i + 1) j b hi hj hb] at k
      exact .inr ⟨i, j, hi, hj, k⟩

theorem moved_rooms {p q : List ByteArray} {φ ψ : Nat → Nat → Nat × Nat} (h : planB p = true) (M : MvG q.length (wideB q) p.length (wideB p) φ ψ) (x : Is q q.length (wideB q) (fun i j => gridG p (φ i j).1 (φ i j).2)) : ∃ τ, NmR p q τ := by
  have hq := x.plan
  have I : ∀ i j i' j', i < p.length → j < wideB p → i' < p.length → j' < wideB p → (gridG p i j = gridG p i' j' ↔ gridG q (ψ i j).1 (ψ i j).2 = gridG q (ψ i' j').1 (ψ i' j').2) := fun i j i' j' h1 h2 h3 h4 => by
    have a1 := M.lt' i j h1 h2; have a2 := M.lt' i' j' h3 h4
    have this : (gridG q (ψ i j).1 (ψ i j).2 = gridG q (ψ i' j').1 (ψ i' j').2 ↔ gridG p (φ (ψ i j).1 (ψ i j).2).1 (φ (ψ i j).1 (ψ i j).2).2 = gridG p (φ (ψ i' j').1 (ψ i' j').2).1 (φ (ψ i' j').1 (ψ i' j').2).2) := x.same _ _ _ _ a2.1 a2.2 a1.1 a1.2
    rw [M.back i j h1 h2, M.back i' j' h3 h4] at this
    exact this.symm
  obtain ⟨τ, T⟩ : ∃ τ : Nat → Nat, ∀ i j, i < p.length → j < wideB p → τ (gridG p i j) = gridG q (ψ i j).1 (ψ i j).2 := by
    have : ∀ a, ∃ t, ∀ i j, i < p.length → j < wideB p → gridG p i j = a → t = gridG q (ψ i j).1 (ψ i j).2 := fun a => by
      by_cases y : ∃ i j, i < p.length ∧ j < wideB p ∧ gridG p i j = a
      · obtain ⟨i, j, h1, h2, e⟩ := y
        exact ⟨gridG q (ψ i j).1 (ψ i j).2, fun i' j' h3 h4 e' => (I i j i' j' h1 h2 h3 h4).1 (by rw [e, e'])⟩
      · exact ⟨0, fun i j h1 h2 e => absurd ⟨i, j, h1, h2, e⟩ y⟩
    obtain ⟨τ, T⟩ := Classical.axiomOfChoice this
    exact ⟨τ, fun i j h1 h2 => T _ i j h1 h2 rfl⟩
  have tlt : ∀ a, a < gridR p → τ a < gridR q := fun a ha => by
    obtain ⟨i, j, h1, h2, rfl⟩ := cell_room2 h ha
    rw [T i j h1 h2]
    exact grid_room hq (M.lt' i j h1 h2).1 (M.lt' i j h1 h2).2
  have inj : ∀ a b, a < gridR p → b < gridR p → τ a = τ b → a = b := fun a b ha hb e => by
    obtain ⟨i, j, h1, h2, rfl⟩ := cell_room2 h ha
    obtain ⟨i', j', h3, h4, rfl⟩ := cell_room2 h hb
    rw [T i j h1 h2, T i' j' h3 h4] at e
    exact (I i j i' j' h1 h2 h3 h4).2 e
  -- the other way
  have K : ∀ i j, i < q.length → j < wideB q → gridG q i j = τ (gridG p (φ i j).1 (φ i j).2) := fun i j h1 h2 => by
    have a1 := M.lt i j h1 h2
    have a2 := M.lt' _ _ a1.1 a1.2
    rw [T _ _ a1.1 a1.2]
    refine (x.same _ _ i j a2.1 a2.2 h1 h2).2 ?_
    show gridG p (φ i j).1 (φ i j).2 = gridG p (φ (ψ (φ i j).1 (φ i j).2).1 (ψ (φ i j).1 (φ i j).2).2).1 (φ (ψ (φ i j).1 (φ i j).2).1 (ψ (φ i j).1 (φ i j).2).2).2
    rw [M.back _ _ a1.1 a1.2]
  have onto : ∀ b, b < gridR q → ∃ a, a < gridR p ∧ τ a = b := fun b hb => by
    obtain ⟨i, j, h1, h2, rfl⟩ := cell_room2 hq hb
    have a1 := M.lt i j h1 h2
    exact ⟨gridG p (φ i j).1 (φ i j).2, grid_room h a1.1 a1.2, (K i j h1 h2).symm⟩
  have rm : gridR q = gridR p := by
    have h1 := range_onto tlt inj
    obtain ⟨σ, hσ⟩ := Classical.axiomOfChoice (show ∀ b, ∃ a, b < gridR q → a < gridR p ∧ τ a = b from fun b => by
      by_cases hb : b < gridR q
      · obtain ⟨a, ha⟩ := onto b hb; exact ⟨a, fun _ => ha⟩
      · exact ⟨0, fun h => absurd h hb⟩)
    have h2 := range_onto (r := gridR q) (s := gridR p) (τ := σ) (fun b hb => (hσ b hb).1) (fun a b ha hb e => by
      rw [← (hσ a ha).2, ← (hσ b hb).2, e])
    omega
  refine ⟨τ, rm, fun a ha => rm ▸ tlt a ha, inj, fun b hb => onto b (by omega), fun a b ha hb hne => ?_⟩
  have hne' : τ a ≠ τ b := fun e => hne (inj a b ha hb e)
  rw [near_adj hq hne', near_adj h hne, ← M.adj (gridG p) a b]
  exact adj_map (G := fun i j => gridG p (φ i j).1 (φ i j).2) (r := gridR p) (fun i j h1 h2 => grid_room h (M.lt i j h1 h2).1 (M.lt i j h1 h2).2) inj K ha hb

theorem mv_flip (h wd : Nat) : MvG h wd h wd (fun i j => (i, wd - 1 - j)) (fun i j => (i, wd - 1 - j)) where
  lt := fun i j hi hj => ⟨hi, by show wd - 1 - j < wd; omega⟩
  lt' := fun i j hi hj => ⟨hi, by show wd - 1 - j < wd; omega⟩
  back := fun i j hi hj => by show (i, wd - 1 - (wd - 1 - j)) = (i, j); congr 1; omega
  adj := fun G a b => by
    have key : ∀ G : Nat → Nat → Nat, AdjG (fun i j => G i (wd - 1 - j)) h wd a b → AdjG G h wd a b := fun G hh => by
      rcases hh with ⟨i, j, hi, hj, k⟩ | ⟨i, j, hi, hj, k⟩
      · refine .inl ⟨i, wd - 1 - (j + 1), hi, by omega, ?_⟩
        have k' : (G i (wd - 1 - j) = a ∧ G i (wd - 1 - (j + 1)) = b) ∨ (G i (wd - 1 - j) = b ∧ G i (wd - 1 - (j + 1)) = a) := k
        rw [show wd - 1 - (j + 1) + 1 = wd - 1 - j by omega]
        rcases k' with ⟨k1, k2⟩ | ⟨k1, k2⟩
        · exact .inr ⟨k2, k1⟩
        · exact .inl ⟨k2, k1⟩
      · exact .inr ⟨i, wd - 1 - j, hi, by omega, k⟩
    refine ⟨key G, fun hh => key (fun i j => G i (wd - 1 - j)) ?_⟩
    rcases hh with ⟨i, j, hi, hj, k⟩ | ⟨i, j, hi, hj, k⟩
    · refine .inl ⟨i, j, hi, hj, ?_⟩
      show (G i (wd - 1 - (wd - 1 - j)) = a ∧ G i (wd - 1 - (wd - 1 - (j + 1))) = b) ∨ (G i (wd - 1 - (wd - 1 - j)) = b ∧ G i (wd - 1 - (wd - 1 - (j + 1))) = a)
      rw [show wd - 1 - (wd - 1 - j) = j by omega, show wd - 1 - (wd - 1 - (j + 1)) = j + 1 by omega]; exact k
    · refine .inr ⟨i, j, hi, hj, ?_⟩
      show (G i (wd - 1 - (wd - 1 - j)) = a ∧ G (i + 1) (wd - 1 - (wd - 1 - j)) = b) ∨ (G i (wd - 1 - (wd - 1 - j)) = b ∧ G (i + 1) (wd - 1 - (wd - 1 - j)) = a)
      rw [show wd - 1 - (wd - 1 - j) = j by omega]; exact k
theorem flip_near {p : List ByteArray} (h : planB p = true) : ∃ τ, NmR p (namesB (flipB p)) τ := by
  have x := is_flip h
  have hl := x.len; have hw := x.wide
  have M := mv_flip p.length (wideB p)
  refine moved_rooms (φ := fun i j => (i, wideB p - 1 - j)) (ψ := fun i j => (i, wideB p - 1 - j)) h ?_ ?_
  · rw [hl, hw]; exact M
  · rw [hl, hw]; exact x

/-- the same steps -/
theorem NmR.dst {p q : List ByteArray} {τ : Nat → Nat} (T : NmR p q τ) (h : planB p = true) (hq : planB q = true) {a b : Nat} (ha : a < gridR p) (hb : b < gridR p) : dstP q (τ a) (τ b) = dstP p a b := by
  have A : ∀ {k x y : Nat}, x < gridR p → Wk (adjF (bsF p) (gridR p)) k x y → Wk (adjF (bsF q) (gridR q)) k (τ x) (τ y) := fun {k} => by
    induction k with
    | zero => intro x y _ hw; exact congrArg τ (show x = y from hw)
    | succ k ih =>
      intro x y hx hw
      obtain ⟨c, h1, h2⟩ := hw
      have hc : c < gridR p := by
        cases k with
        | zero => have : x = c := h1; omega
        | succ k => obtain ⟨d, _, h3⟩ := h1; exact adjF_lt _ _ d c h3
      obtain ⟨hy, h4⟩ := adjF_mem.1 h2
      refine ⟨τ c, ih hx h1, adjF_mem.2 ⟨by rw [T.rooms]; exact T.lt y hy, ?_⟩⟩
      have hne : c ≠ y := fun e => by subst e; unfold besN at h4; rw [if_pos rfl] at h4; omega
      exact (T.near c y hc hy hne).2 h4
  have B : ∀ {k x y : Nat}, x < gridR p → y < gridR p → Wk (adjF (bsF q) (gridR q)) k (τ x) (τ y) → Wk (adjF (bsF p) (gridR p)) k x y := fun {k} => by
    induction k with
    | zero => intro x y hx hy hw; exact T.inj x y hx hy hw
    | succ k ih =>
      intro x y hx hy hw
      obtain ⟨c', h1, h2⟩ := hw
      have hc : c' < gridR p := by
        cases k with
        | zero => have : τ x = c' := h1; rw [← this]; exact T.lt x hx
        | succ k => obtain ⟨d, _, h3⟩ := h1; have := adjF_lt _ _ d c' h3; rw [T.rooms] at this; exact this
      obtain ⟨c, hc', rfl⟩ := T.onto c' hc
      obtain ⟨_, h4⟩ := adjF_mem.1 h2
      have hne : c ≠ y := fun e => by subst e; unfold besN at h4; rw [if_pos rfl] at h4; omega
      exact ⟨c, ih hx hc' h1, adjF_mem.2 ⟨hy, (T.near c y hc' hy hne).1 h4⟩⟩
  have pp := dstP_pos h ha hb
  have ha' : τ a < gridR q := by rw [T.rooms]; exact T.lt a ha
  have hb' : τ b < gridR q := by rw [T.rooms]; exact T.lt b hb
  have pq := dstP_pos hq ha' hb'
  have w1 := Wk.of ha (fun y => adjF_lt (bsF p) (gridR p) y) (dstP p a b - 1) (b := b) (show dstP p a b = dstP p a b - 1 + 1 by omega)
  have w2 := Wk.of ha' (fun y => adjF_lt (bsF q) (gridR q) y) (dstP q (τ a) (τ b) - 1) (b := τ b) (show dstP q (τ a) (τ b) = dstP q (τ a) (τ b) - 1 + 1 by omega)
  have l1 : dstP q (τ a) (τ b) ≤ dstP p a b - 1 + 1 := (Wk.dist ha' (fun y => adjF_lt (bsF q) (gridR q) y) (A ha w1)).2
  have l2 : dstP p a b ≤ dstP q (τ a) (τ b) - 1 + 1 := (Wk.dist ha (fun y => adjF_lt (bsF p) (gridR p) y) (B ha hb w2)).2
  omega

theorem gridR_pos0 {p : List ByteArray} (h : planB p = true) : 0 < gridR p := by
  have hg := (planP_of h).grid
  have := grid_room h (i := 0) (j := 0) (by have := hg.h1; omega) (by have := hg.w1; omega)
  omega
theorem farN_some {p : List ByteArray} (h : planB p = true) : ∃ a b, a < gridR p ∧ b < gridR p ∧ farN p = dstP p a b - 1 := by
  have hpos := gridR_pos0 h
  obtain ⟨a, ha, e⟩ := mxF_some (rowF p) (gridR p) hpos
  obtain ⟨b, hb, e2⟩ := mxF_some (fun b => dstP p a b - 1) (gridR p) hpos
  exact ⟨a, b, ha, hb, by unfold farN; rw [if_pos h, e]; exact e2⟩
theorem farN_ge {p : List ByteArray} (h : planB p = true) {a b : Nat} (ha : a < gridR p) (hb : b < gridR p) : dstP p a b - 1 ≤ farN p := by
  have h1 := mxF_ge (f := rowF p) ha
  have h2 := mxF_ge (f := fun b => dstP p a b - 1) hb
  have h3 : dstP p a b - 1 ≤ rowF p a := h2
  unfold farN; rw [if_pos h]; omega
theorem NmR.far {p q : List ByteArray} {τ : Nat → Nat} (T : NmR p q τ) (h : planB p = true) (hq : planB q = true) : farN q = farN p := by
  obtain ⟨a, b, ha, hb, e⟩ := farN_some h
  obtain ⟨a', b', ha', hb', e'⟩ := farN_some hq
  rw [T.rooms] at ha' hb'
  obtain ⟨c, hc, rfl⟩ := T.onto a' ha'
  obtain ⟨d, hd, rfl⟩ := T.onto b' hb'
  have h1 := farN_ge hq (a := τ a) (b := τ b) (by rw [T.rooms]; exact T.lt a ha) (by rw [T.rooms]; exact T.lt b hb)
  have h2 := farN_ge h hc hd
  rw [T.dst h hq hc hd] at e'
  rw [T.dst h hq ha hb] at h1
  omega
/-- of the longest way -/
theorem far_math {p : List ByteArray} (h : planB p = true) : planB (namesB (flipB p)) = true ∧ farN (namesB (flipB p)) = farN p ∧ farN p < gridR p ∧ gridR p ≤ 9 ∧ (farN p = 0 ↔ gridR p = 1) := by
  have hpos := gridR_pos0 h
  have hq := (is_flip h).plan
  obtain ⟨τ, T⟩ := flip_near h
  refine ⟨hq, T.far h hq, ?_, (planP_of h).few, ?_⟩
  · obtain ⟨a, b, ha, hb, e⟩ := farN_some h
    have := dstP_le (p := p) (b := b) ha
    omega
  · constructor
    · intro h0
      refine Classical.byContradiction fun hne => ?_
      have h1 := farN_ge h (a := 0) (b := 1) (by omega) (by omega)
      have h2 := dstP_pos h (a := 0) (b := 1) (by omega) (by omega)
      have := dst_one (p := p) (a := 0) (b := 1) (by omega) (by omega)
      omega
    · intro h1
      obtain ⟨a, b, ha, hb, e⟩ := farN_some h
      obtain rfl : a = 0 := by omega
      obtain rfl : b = 0 := by omega
      rw [dst_self] at e; omega
end Go.Proofs.Ytkbgkkempooplaa
