
/-
  Merged texts: OrdH Sort OrdJ.
-/
import Derived.Test.YtjdlapcikpmdgaaLon
import Derived.Test.YtjdlapcikpmdgaaLaws
import Derived.Test.YtjdlapcikpmdgaaDraw
import Derived.Test.YtjdlapcikpmdgaaNests

/-
  What the laws of orders ask. (Plain mathematics.)
-/
namespace Go.Proofs.Ytjdlapcikpmdgaa

/-- what a lead tells: a plain plan, two rooms -/
theorem ledP_parts {p : List ByteArray} {way : Nat} {a b : Int} (h : ledP p way a b = true) : plainB p = true ∧ ∃ m n : Nat, a = (m : Int) ∧ b = (n : Int) ∧ m < gridR p ∧ n < gridR p ∧ pL p way m n = true := by
  cases hp : plainB p
  · rw [ledP_no hp] at h; cases h
  · rw [ledP_yes hp, Bool.and_eq_true, Bool.and_eq_true, oRm_iff, oRm_iff] at h
    obtain ⟨⟨ha, hb⟩, hl⟩ := h
    exact ⟨rfl, a.toNat, b.toNat, by omega, by omega, by omega, by omega, hl⟩
theorem ledP_trans {p : List ByteArray} {way : Nat} (hw : way < 2) {a b c : Int} (h1 : ledP p way a b = true) (h2 : ledP p way b c = true) : ledP p way a c = true := by
  obtain ⟨hp, m, n, rfl, rfl, hm, hn, e1⟩ := ledP_parts h1
  obtain ⟨_, n', k, e, rfl, _, hk, e2⟩ := ledP_parts h2
  obtain rfl : n = n' := by omega
  rw [ledP_nat hp way hm hk]
  exact pL_trans hw e1 e2
theorem ledP_left {p : List ByteArray} {a b : Int} (h : ledP p 0 a b = true) : ledP p 0 b a = false ∧ ledP p 1 a b = false ∧ ledP p 1 b a = false ∧ planB p = true := by
  obtain ⟨hp, m, n, rfl, rfl, hm, hn, e1⟩ := ledP_parts h
  rw [ledP_nat hp 0 hn hm, ledP_nat hp 1 hm hn, ledP_nat hp 1 hn hm]
  have := pL_one hp hm hn e1
  exact ⟨this.1, this.2.1, this.2.2, plainB_plan hp⟩
theorem ledP_above {p : List ByteArray} {a b : Int} (h : ledP p 1 a b = true) : ledP p 1 b a = false ∧ ledP p 0 a b = false ∧ ledP p 0 b a = false ∧ planB p = true := by
  obtain ⟨hp, m, n, rfl, rfl, hm, hn, e1⟩ := ledP_parts h
  rw [ledP_nat hp 1 hn hm, ledP_nat hp 0 hm hn, ledP_nat hp 0 hn hm]
  have := pL_over hp hm hn e1
  exact ⟨this.1, this.2.1, this.2.2, plainB_plan hp⟩
theorem kind_above {p : List ByteArray} {a b : Int} (h : ledP p 1 a b = true) : kindV p a b = ⟨#[117]⟩ := by
  obtain ⟨_, h2, h3, _⟩ := ledP_above h
  unfold kindV
  rw [h, h2, h3]; rfl

/-- where a room begins -/
theorem room_corner {p : List ByteArray} (hp : planB p = true) {k : Nat} (hk : k < gridR p) : ∃ x y : Nat, x < p.length ∧ y < wideB p ∧ gridG p x y = k ∧ (roomV p (k : Int)).top = (x : Int) ∧ (roomV p (k : Int)).left = (y : Int) := by
  have hP := planP_of hp
  obtain ⟨x, _, hx⟩ := hP.boxes.2 k hk
  have hg : givenB p (k : Int) = true := by rw [given_oRm hp]; exact oRm_iff.2 ⟨by omega, by omega⟩
  have hx0 := hx
  obtain ⟨_, a1, a2, a3, a4, a5⟩ := hx0
  refine ⟨x.row, x.col, by omega, by omega, ?_, ?_, ?_⟩
  · rw [← hP.mark x.row x.col (by omega) (by omega)]
    exact (a5 x.row x.col (by omega) (by omega)).2 (by unfold InR; omega)
  · rw [roomV_yes hg, boxB_box hP hx]
  · rw [roomV_yes hg, boxB_box hP hx]
theorem left_place {p : List ByteArray} {a b : Int} (h : ledP p 0 a b = true) : (roomV p a).left < (roomV p b).left ∧ givenB p a = true ∧ givenB p b = true := by
  obtain ⟨hp, m, n, rfl, rfl, hm, hn, e1⟩ := ledP_parts h
  have hpl := plainB_plan hp
  obtain ⟨i, j, hi, hj, ea, _, la⟩ := room_corner hpl hm
  obtain ⟨x, y, hx, hy, eb, _, lb⟩ := room_corner hpl hn
  rw [pL_left, ← ea, ← eb] at e1
  have := left_cols (planP_of hpl).rectG (noX_of hp) hi hj hx hy e1
  rw [la, lb, given_oRm hpl, given_oRm hpl]
  exact ⟨by omega, oRm_iff.2 ⟨by omega, by omega⟩, oRm_iff.2 ⟨by omega, by omega⟩⟩
theorem above_place {p : List ByteArray} {a b : Int} (h : ledP p 1 a b = true) : (roomV p a).top < (roomV p b).top ∧ givenB p a = true ∧ givenB p b = true := by
  obtain ⟨hp, m, n, rfl, rfl, hm, hn, e1⟩ := ledP_parts h
  have hpl := plainB_plan hp
  obtain ⟨i, j, hi, hj, ea, la, _⟩ := room_corner hpl hm
  obtain ⟨x, y, hx, hy, eb, lb, _⟩ := room_corner hpl hn
  rw [pL_above, ← ea, ← eb] at e1
  have := above_rows (planP_of hpl).rectG (noX_of hp) hi hj hx hy e1
  rw [la, lb, given_oRm hpl, given_oRm hpl]
  exact ⟨by omega, oRm_iff.2 ⟨by omega, by omega⟩, oRm_iff.2 ⟨by omega, by omega⟩⟩

/-- what a kind tells -/
theorem kind_none {p : List ByteArray} {a b : Int} (h : kindB p a b = false) : kindV p a b = ⟨#[]⟩ := by
  unfold kindB kindK at h
  unfold kindV
  rw [Bool.or_eq_false_iff, Bool.or_eq_false_iff, Bool.or_eq_false_iff] at h
  rw [h.1.1.1, h.1.1.2, h.1.2, h.2]; rfl
theorem kind_cases {p : List ByteArray} {a b : Int} (h : kindB p a b = true) :
    (ledP p 0 a b = true ∧ ledP p 0 b a = false ∧ ledP p 1 a b = false ∧ ledP p 1 b a = false ∧ kindV p a b = ⟨#[108]⟩) ∨ (ledP p 0 a b = false ∧ ledP p 0 b a = true ∧ ledP p 1 a b = false ∧ ledP p 1 b a = false ∧ kindV p a b = ⟨#[114]⟩) ∨
    (ledP p 0 a b = false ∧ ledP p 0 b a = false ∧ ledP p 1 a b = true ∧ ledP p 1 b a = false ∧ kindV p a b = ⟨#[117]⟩) ∨ (ledP p 0 a b = false ∧ ledP p 0 b a = false ∧ ledP p 1 a b = false ∧ ledP p 1 b a = true ∧ kindV p a b = ⟨#[100]⟩) := by
  unfold kindB kindK at h
  unfold kindV
  rw [Bool.or_eq_true, Bool.or_eq_true, Bool.or_eq_true] at h
  rcases h with ((h | h) | h) | h
  · obtain ⟨h1, h2, h3, _⟩ := ledP_left h
    rw [h, h1, h2, h3]; exact .inl ⟨rfl, rfl, rfl, rfl, rfl⟩
  · obtain ⟨h1, h2, h3, _⟩ := ledP_left h
    rw [h, h1, h2, h3]; exact .inr (.inl ⟨rfl, rfl, rfl, rfl, rfl⟩)
  · obtain ⟨h1, h2, h3, _⟩ := ledP_above h
    rw [h, h1, h2, h3]; exact .inr (.inr (.inl ⟨rfl, rfl, rfl, rfl, rfl⟩))
  · obtain ⟨h1, h2, h3, _⟩ := ledP_above h
    rw [h, h1, h2, h3]; exact .inr (.inr (.inr ⟨rfl, rfl, rfl, rfl, rfl⟩))
theorem kind_places {p : List ByteArray} {a b : Int} (h : kindB p a b = true) :
    (kindV p a b = ⟨#[108]⟩ ∧ (roomV p a).left < (roomV p b).left ∧ givenB p a = true ∧ givenB p b = true) ∨ (kindV p a b = ⟨#[114]⟩ ∧ (roomV p b).left < (roomV p a).left ∧ givenB p a = true ∧ givenB p b = true) ∨
    (kindV p a b = ⟨#[117]⟩ ∧ (roomV p a).top < (roomV p b).top ∧ givenB p a = true ∧ givenB p b = true) ∨ (kindV p a b = ⟨#[100]⟩ ∧ (roomV p b).top < (roomV p a).top ∧ givenB p a = true ∧ givenB p b = true) := by
  rcases kind_cases h with ⟨e1, e2, e3, e4, e5⟩ | ⟨e1, e2, e3, e4, e5⟩ | ⟨e1, e2, e3, e4, e5⟩ | ⟨e1, e2, e3, e4, e5⟩
  · have := left_place e1; exact .inl ⟨e5, this⟩
  · have := left_place e2; exact .inr (.inl ⟨e5, this.1, this.2.2, this.2.1⟩)
  · have := above_place e3; exact .inr (.inr (.inl ⟨e5, this⟩))
  · have := above_place e4; exact .inr (.inr (.inr ⟨e5, this.1, this.2.2, this.2.1⟩))

/-- rows of rooms go on by columns, and by rows -/
theorem pth_cols {p : List ByteArray} (h : plainB p = true) : ∀ {n a b : Nat}, Pth (pL p 0) (gridR p) n a b → ∀ i j x y, i < p.length → j < wideB p → x < p.length → y < wideB p → gridG p i j = a → gridG p x y = b → n = 0 ∨ j + n ≤ y
  | 0, _, _, _ => fun _ _ _ _ _ _ _ _ _ _ => .inl rfl
  | n + 1, a, b, hp => fun i j x y hi hj hx hy ea eb => by
    obtain ⟨c, h1, h2, h3⟩ := hp
    obtain ⟨x', y', hx', hy', ec⟩ := room_at h1.lt.2
    have hr := (planP_of (plainB_plan h)).rectG
    rw [pL_left, ← ec, ← eb] at h2
    have hlt := left_cols hr (noX_of h) hx' hy' hx hy h2
    rcases pth_cols h h1 i j x' y' hi hj hx' hy' ea ec with h0 | h0
    · subst h0
      obtain ⟨rfl, _⟩ := h1
      rw [ec, ← ea] at h2
      have := left_cols hr (noX_of h) hi hj hx hy (by rw [ea]; rwa [ea] at h2)
      omega
    · omega
theorem pth_rows {p : List ByteArray} (h : plainB p = true) : ∀ {n a b : Nat}, Pth (pL p 1) (gridR p) n a b → ∀ i j x y, i < p.length → j < wideB p → x < p.length → y < wideB p → gridG p i j = a → gridG p x y = b → n = 0 ∨ i + n ≤ x
  | 0, _, _, _ => fun _ _ _ _ _ _ _ _ _ _ => .inl rfl
  | n + 1, a, b, hp => fun i j x y hi hj hx hy ea eb => by
    obtain ⟨c, h1, h2, h3⟩ := hp
    obtain ⟨x', y', hx', hy', ec⟩ := room_at h1.lt.2
    have hr := (planP_of (plainB_plan h)).rectG
    rw [pL_above, ← ec, ← eb] at h2
    have hlt := above_rows hr (noX_of h) hx' hy' hx hy h2
    rcases pth_rows h h1 i j x' y' hi hj hx' hy' ea ec with h0 | h0
    · subst h0
      obtain ⟨rfl, _⟩ := h1
      rw [ec, ← ea] at h2
      have := above_rows hr (noX_of h) hi hj hx hy (by rw [ea]; rwa [ea] at h2)
      omega
    · omega
/-- what the law of longest rows asks -/
theorem longRows_math {p : List ByteArray} (h : plainB p = true) : 1 ≤ longP p 0 ∧ 1 ≤ longP p 1 ∧ longP p 0 ≤ wideB p ∧ longP p 1 ≤ p.length ∧ gridR p ≤ longP p 0 * longP p 1 := by
  have hP := planP_of (plainB_plan h)
  have hr1 : 1 ≤ gridR p := by
    have h := gridG_lt (p := p) (i := 0) (j := 0) (by have := hP.grid.h1; omega) (by have := hP.grid.w1; omega)
    omega
  have G0 := pL_goes h (way := 0) (by omega)
  have G1 := pL_goes h (way := 1) (by omega)
  rw [longP_yes h, longP_yes h]
  have a0 : 1 ≤ lonQ (pL p 0) (firstQ (pL p)) (gridR p) := (G0.long (n := 0)).2 ⟨0, 0, rfl, by omega⟩
  have a1 : 1 ≤ lonQ (pL p 1) (firstQ (pL p)) (gridR p) := (G1.long (n := 0)).2 ⟨0, 0, rfl, by omega⟩
  refine ⟨a0, a1, ?_, ?_, ?_⟩
  · obtain ⟨a, b, hp⟩ := (G0.long (n := lonQ (pL p 0) (firstQ (pL p)) (gridR p) - 1)).1 (by omega)
    obtain ⟨i, j, hi, hj, ea⟩ := room_at hp.lt.1
    obtain ⟨x, y, hx, hy, eb⟩ := room_at hp.lt.2
    have := pth_cols h hp i j x y hi hj hx hy ea eb
    have := hP.grid.w1
    omega
  · obtain ⟨a, b, hp⟩ := (G1.long (n := lonQ (pL p 1) (firstQ (pL p)) (gridR p) - 1)).1 (by omega)
    obtain ⟨i, j, hi, hj, ea⟩ := room_at hp.lt.1
    obtain ⟨x, y, hx, hy, eb⟩ := room_at hp.lt.2
    have := pth_rows h hp i j x y hi hj hx hy ea eb
    have := hP.grid.h1
    omega
  · have up : ∀ {f : Nat → Nat → Bool} (_ : Goes f (firstQ (pL p)) (gridR p)) {b : Nat}, b < gridR p → hiM f (gridR p) b < lonQ f (firstQ (pL p)) (gridR p) := fun {f} G {b} hb => by
      obtain ⟨c, hc⟩ := (G.hi hb).1 (Nat.le_refl _)
      exact G.long.2 ⟨c, b, hc⟩
    have st : ∀ {f : Nat → Nat → Bool} (_ : Goes f (firstQ (pL p)) (gridR p)) {a b : Nat}, f a b = true → hiM f (gridR p) a < hiM f (gridR p) b := fun {f} G {a b} hf => by
      obtain ⟨ha, hb, _⟩ := G.imp _ _ hf
      obtain ⟨c, hc⟩ := (G.hi ha).1 (Nat.le_refl _)
      exact (G.hi hb).2 ⟨c, a, hc, hf, hb⟩
    generalize hx : lonQ (pL p 0) (firstQ (pL p)) (gridR p) = X at *
    generalize hy : lonQ (pL p 1) (firstQ (pL p)) (gridR p) = Y at *
    have hn : ((List.range (gridR p)).map fun b => hiM (pL p 0) (gridR p) b * Y + hiM (pL p 1) (gridR p) b).Nodup := by
      unfold List.Nodup
      rw [List.pairwise_map]
      refine List.Pairwise.imp_of_mem ?_ List.pairwise_lt_range
      intro a b ha hb hab e
      have ha := List.mem_range.1 ha
      have hb := List.mem_range.1 hb
      have u1 := up G1 ha
      have u2 := up G1 hb
      rw [hy] at u1 u2
      have key : hiM (pL p 0) (gridR p) a = hiM (pL p 0) (gridR p) b ∧ hiM (pL p 1) (gridR p) a = hiM (pL p 1) (gridR p) b := by
        have d1 : (hiM (pL p 0) (gridR p) a * Y + hiM (pL p 1) (gridR p) a) / Y = hiM (pL p 0) (gridR p) a := by
          rw [Nat.mul_comm, Nat.mul_add_div (by omega), Nat.div_eq_of_lt u1]; rfl
        have d2 : (hiM (pL p 0) (gridR p) b * Y + hiM (pL p 1) (gridR p) b) / Y = hiM (pL p 0) (gridR p) b := by
          rw [Nat.mul_comm, Nat.mul_add_div (by omega), Nat.div_eq_of_lt u2]; rfl
        have e0 : hiM (pL p 0) (gridR p) a = hiM (pL p 0) (gridR p) b := by rw [← d1, ← d2, e]
        refine ⟨e0, ?_⟩
        rw [e0] at e
        omega
      rcases pL_some (plainB_plan h) ha hb (by omega) with e1 | e1 | e1 | e1
      · have := st G0 e1; omega
      · have := st G0 e1; omega
      · have := st G1 e1; omega
      · have := st G1 e1; omega
    have := nodup_lt (X * Y) _ hn (fun z hz => by
      obtain ⟨b, hb, rfl⟩ := List.mem_map.1 hz
      have hb := List.mem_range.1 hb
      have u0 := up G0 hb
      have u1 := up G1 hb
      rw [hx] at u0
      rw [hy] at u1
      have : hiM (pL p 0) (gridR p) b * Y + Y ≤ X * Y := by
        rw [← Nat.succ_mul]; exact Nat.mul_le_mul_right _ u0
      omega)
    simpa using this
end Go.Proofs.Ytjdlapcikpmdgaa

/-
  Numbers put in order by the laws.
-/
/-
  A list put in order: the walk and its mathematics; areas of plans turned.
-/
namespace Go.Proofs.Ytjdlapcikpmdgaa
open Go.RowKit

/-- numbers held in a row -/
def RowI (w : World) (g : Nat) (L : List Int) : Prop := ∃ cur, HeldB w g 3 cur ∧ ∀ j, j < L.length → cur[j]? = (L.map (Value.int .i64))[j]?
theorem RowI.cell {w : World} {g : Nat} {L : List Int} (h : RowI w g L) (j : Nat) (hj : j < L.length) : w.cell? ⟨g, j, none⟩ = some (.int .i64 (L.getD j 0)) := by
  obtain ⟨cur, h1, h2⟩ := h
  rw [h1.cell j, h2 j hj]
  simp [hj]
theorem RowI.frozen {w : World} {g : Nat} {L : List Int} (h : RowI w g L) (j : Nat) : w.frozen? ⟨g, j, none⟩ = false := by
  obtain ⟨cur, h1, h2⟩ := h
  exact h1.frozen j
theorem RowI.set {w : World} {g : Nat} {L : List Int} (h : RowI w g L) (i : Nat) (x : Int) : RowI (w.setCell ⟨g, i, none⟩ (.int .i64 x)) g (L.set i x) := by
  obtain ⟨cur, h1, h2⟩ := h
  refine ⟨_, h1.set i _, fun j hj => ?_⟩
  rw [List.length_set] at hj
  have h3 := h2 j hj
  have h4 : j < cur.size := by
    rcases Nat.lt_or_ge j cur.size with h5 | h5
    · exact h5
    · rw [Array.getElem?_eq_none h5, List.getElem?_eq_getElem (by rw [List.length_map]; exact hj)] at h3; cases h3
  rw [List.map_set, Array.getElem?_setIfInBounds, List.getElem?_set]
  split
  · rename_i h5; subst h5; rw [if_pos h4, if_pos (by rw [List.length_map]; exact hj)]
  · exact h3
theorem RowI.cells {w : World} {g : Nat} {L : List Int} (h : RowI w g L) : CellsAt w (some ⟨g, 0, none⟩) (L.map (Value.int .i64)) := fun j u hu => by
  obtain ⟨cur, h1, h2⟩ := h
  refine ⟨g, 0, rfl, ?_⟩
  have hj : j < L.length := by have := (List.getElem?_eq_some_iff.1 hu).1; rwa [List.length_map] at this
  rw [Nat.zero_add, h1.cell j, h2 j hj]; exact hu

/-- in order up to a place, but for one place whose number is not above those behind it -/
def OrdX (D : List Int) (k i : Nat) (x : Int) : Prop := (∀ a b, a < b → b ≤ i → a ≠ k → b ≠ k → D.getD a 0 ≤ D.getD b 0) ∧ (∀ b, k < b → b ≤ i → x ≤ D.getD b 0)
def OrdL (D : List Int) (i : Nat) : Prop := ∀ a b, a < b → b < i → D.getD a 0 ≤ D.getD b 0

theorem getD_set' (D : List Int) (i j : Nat) (x : Int) (hi : i < D.length) : (D.set i x).getD j 0 = if j = i then x else D.getD j 0 := by
  rw [List.getD_eq_getElem?_getD, List.getElem?_set]
  by_cases h : i = j
  · subst h; rw [if_pos rfl, if_pos hi, if_pos rfl]; rfl
  · rw [if_neg h, if_neg (fun e => h e.symm), List.getD_eq_getElem?_getD]
theorem set_self (L : List Int) (i : Nat) (hi : i < L.length) : L.set i (L.getD i 0) = L := by
  have : L.getD i 0 = L[i] := by simp [hi]
  rw [this]
  exact List.set_getElem_self hi
theorem ord_begin {L : List Int} {i : Nat} (h : OrdL L i) : OrdX L i i (L.getD i 0) :=
  ⟨fun a b h1 h2 h3 h4 => h a b h1 (by omega), fun b h1 h2 => by omega⟩
theorem ord_end {D : List Int} {k i : Nat} {x : Int} (h : OrdX D k i x) (hx : D.getD k 0 = x) (hk : k = 0 ∨ D.getD (k - 1) 0 ≤ x) : OrdL D (i + 1) := fun a b h1 h2 => by
  by_cases ha : a = k
  · subst ha; rw [hx]; exact h.2 b h1 (by omega)
  · by_cases hb : b = k
    · subst hb
      rw [hx]
      rcases hk with hk | hk
      · omega
      · by_cases h3 : a = b - 1
        · subst h3; exact hk
        · exact Int.le_trans (h.1 a (b - 1) (by omega) (by omega) ha (by omega)) hk
    · exact h.1 a b h1 (by omega) ha hb
theorem ord_step {D : List Int} {k i : Nat} {x y : Int} (h : OrdX D k i x) (hk : 0 < k) (hki : k ≤ i) (hi : i < D.length) (hy : D.getD (k - 1) 0 = y) (hx : x < y) :
    OrdX ((D.set k y).set (k - 1) x) (k - 1) i x := by
  have e : ∀ j, ((D.set k y).set (k - 1) x).getD j 0 = if j = k - 1 then x else if j = k then y else D.getD j 0 := fun j => by
    rw [getD_set' _ _ _ _ (by rw [List.length_set]; omega), getD_set' _ _ _ _ (by omega)]
  refine ⟨fun a b h1 h2 h3 h4 => ?_, fun b h1 h2 => ?_⟩
  · rw [e, e, if_neg h3, if_neg h4]
    by_cases ha : a = k
    · subst ha; rw [if_pos rfl, if_neg (by omega), ← hy]
      exact h.1 (a - 1) b (by omega) h2 (by omega) (by omega)
    · rw [if_neg ha]
      by_cases hb : b = k
      · subst hb; rw [if_pos rfl, ← hy]
        exact h.1 a (b - 1) (by omega) (by omega) ha (by omega)
      · rw [if_neg hb]; exact h.1 a b h1 h2 ha hb
  · rw [e, if_neg (by omega)]
    by_cases hb : b = k
    · rw [if_pos hb]; omega
    · rw [if_neg hb]; exact h.2 b (by omega) h2
theorem perm_step {D : List Int} {k : Nat} {x y : Int} (hk : 0 < k) (hl : k < D.length) (hx : D.getD k 0 = x) (hy : D.getD (k - 1) 0 = y) : ((D.set k y).set (k - 1) x).Perm D := by
  have := @List.set_set_perm Int D k (k - 1) hl (by omega)
  rw [show D[k] = x by rw [← hx]; simp [hl], show D[k - 1]'(by omega) = y by rw [← hy]; simp [show k - 1 < D.length by omega]] at this
  exact this
theorem pair_of {s : List Int} (h : OrdL s s.length) : s.Pairwise (· ≤ ·) := by
  rw [List.pairwise_iff_getElem]
  intro i j hi hj hij
  have := h i j hij hj
  simpa [hi, hj] using this
theorem sorted_same {s t a b : List Int} (h1 : s.Perm a) (h2 : t.Perm b) (hab : a.Perm b) (hs : s.Pairwise (· ≤ ·)) (ht : t.Pairwise (· ≤ ·)) : s = t :=
  List.Perm.eq_of_pairwise (le := (· ≤ ·)) (fun _ _ _ _ h1 h2 => Int.le_antisymm h1 h2) hs ht (h1.trans (hab.trans h2.symm))

end Go.Proofs.Ytjdlapcikpmdgaa

/-
  What the laws of both orders ask. (Plain mathematics.)
-/
namespace Go.Proofs.Ytjdlapcikpmdgaa

theorem Lin.least {q : Nat → Nat → Bool} {r z : Nat} (L : Lin q r) (hz : z < r) (h : ∀ a, a < r → q a z = false) : (lineN q r r).getD 0 0 = z := by
  have : placeN q r z = 0 := by
    unfold placeN
    rw [List.countP_eq_zero]
    intro a ha
    rw [h a (List.mem_range.1 ha)]; exact Bool.false_ne_true
  have e := L.line hz
  rwa [this] at e
theorem Lin.last {q : Nat → Nat → Bool} {r z : Nat} (L : Lin q r) (hz : z < r) (h : ∀ a, a < r → q z a = false) : (lineN q r r).getD (r - 1) 0 = z := by
  have hk := L.lt hz
  obtain ⟨b1, b2⟩ := L.back (k := r - 1) (by omega)
  by_cases he : (lineN q r r).getD (r - 1) 0 = z
  · exact he
  · exfalso
    rcases L.all _ _ b2 hz he with e | e
    · have := L.mono b2 hz e; omega
    · rw [h _ b2] at e; cases e
theorem Lin.next {q : Nat → Nat → Bool} {r i : Nat} (L : Lin q r) (h1 : 1 ≤ i) (hi : i < r) : q ((lineN q r r).getD (i - 1) 0) ((lineN q r r).getD i 0) = true := by
  obtain ⟨b1, b2⟩ := L.back (k := i) hi
  obtain ⟨c1, c2⟩ := L.back (k := i - 1) (by omega)
  rcases L.all _ _ c2 b2 (fun e => by rw [e] at c1; omega) with e | e
  · exact e
  · have := L.mono b2 c2 e; omega
theorem Lin.perm {q : Nat → Nat → Bool} {r : Nat} (L : Lin q r) : (lineN q r r).Perm (List.range r) := by
  have hl := lineN_len q r r
  have nd : (lineN q r r).Nodup := by
    rw [List.nodup_iff_pairwise_ne, List.pairwise_iff_getElem]
    intro i j hi hj hij e
    have b1 := (L.back (k := i) (by omega)).1
    have b2 := (L.back (k := j) (by omega)).1
    rw [show (lineN q r r).getD i 0 = (lineN q r r)[i] by simp [hi]] at b1
    rw [show (lineN q r r).getD j 0 = (lineN q r r)[j] by simp [hj]] at b2
    rw [e] at b1
    omega
  rw [List.perm_ext_iff_of_nodup nd List.nodup_range]
  intro x
  rw [List.mem_range]
  constructor
  · intro hx
    obtain ⟨i, hi, rfl⟩ := List.getElem_of_mem hx
    have := (L.back (k := i) (by omega)).2
    rwa [show (lineN q r r).getD i 0 = (lineN q r r)[i] by simp [hi]] at this
  · intro hx
    have := L.line hx
    rw [← this]
    have hlt := L.lt hx
    rw [show (lineN q r r).getD (placeN q r x) 0 = (lineN q r r)[placeN q r x]'(by omega) by simp [hl, hlt]]
    exact List.getElem_mem _
theorem ints_sorted (r : Nat) : (intsL (List.range r)).Pairwise (· ≤ ·) := by
  unfold intsL
  rw [List.pairwise_map]
  exact List.pairwise_lt_range.imp (fun h => by omega)
theorem ints_range (r i : Nat) (hi : i < r) : (intsL (List.range r)).getD i 0 = (i : Int) := by simp [intsL, hi]
theorem ints_at (S : List Nat) {i : Nat} (hi : i < S.length) : (intsL S).getD i 0 = ((S.getD i 0 : Nat) : Int) := by simp [intsL, hi]

/-- a cell's letter tells its room -/
theorem letter_room {p : List ByteArray} (hp : planB p = true) {i j : Nat} (hi : i < p.length) (hj : j < wideB p) : ((byteAt p i j).toNat : Int) - 97 = ((gridG p i j : Nat) : Int) ∧ (byteAt p i j).toNat ≤ 122 := by
  have hP := planP_of hp
  obtain ⟨h1, h2⟩ := hP.grid.byte hi hj
  rw [← hP.mark i j hi hj]
  omega
theorem room_zero {p : List ByteArray} (hp : planB p = true) : gridG p 0 0 = 0 := by
  have hP := planP_of hp
  have h1 := hP.grid.h1
  have w1 := hP.grid.w1
  rcases Nat.eq_zero_or_pos (gridG p 0 0) with h | h
  · exact h
  · exfalso
    rw [← hP.mark 0 0 (by omega) (by omega)] at h
    obtain ⟨i, j, _, _, h3, _⟩ := hP.canon 0 0 (by omega) (by omega) 0 h
    omega

/-- what the law of first orders asks -/
theorem first_math {p : List ByteArray} (h : plainB p = true) : (firstL p).length = gridR p ∧ 1 ≤ gridR p ∧ gridR p ≤ 9 ∧ (firstL p).Perm (List.range (gridR p)) ∧ (firstL p).getD 0 0 = 0 ∧
    (firstL p).getD (gridR p - 1) 0 = gridG p (p.length - 1) (wideB p - 1) ∧ (∀ i, 1 ≤ i → i < gridR p → ledP p 0 ((firstL p).getD (i - 1) 0 : Nat) ((firstL p).getD i 0 : Nat) = true ∨ (ledP p 0 ((firstL p).getD (i - 1) 0 : Nat) ((firstL p).getD i 0 : Nat) = false ∧ ledP p 1 ((firstL p).getD (i - 1) 0 : Nat) ((firstL p).getD i 0 : Nat) = true)) := by
  have hp := plainB_plan h
  have hP := planP_of hp
  have hr := hP.rectG
  have nx := noX_of h
  have L := first_lin h
  have h1 := hP.grid.h1
  have w1 := hP.grid.w1
  have hlt : ∀ i j, i < p.length → j < wideB p → gridG p i j < gridR p := fun i j hi hj => gridG_lt hi hj
  have hz0 := hlt 0 0 (by omega) (by omega)
  unfold firstL
  rw [oR_yes h, oF_yes h]
  refine ⟨lineN_len _ _ _, by omega, hP.few, L.perm, ?_, ?_, fun i i1 i2 => ?_⟩
  · have := L.least hz0 (fun a ha => by
      obtain ⟨i, j, hi, hj, rfl⟩ := room_at ha
      rw [Bool.eq_false_iff]
      unfold firstQ
      rw [Ne, Bool.or_eq_true, pL_left, pL_above]
      rintro (e | e)
      · have := left_cols hr nx hi hj (by omega) (by omega) e; omega
      · have := above_rows hr nx hi hj (by omega) (by omega) e; omega)
    rw [this, room_zero hp]
  · exact L.last (hlt _ _ (by omega) (by omega)) (fun a ha => by
      obtain ⟨i, j, hi, hj, rfl⟩ := room_at ha
      rw [Bool.eq_false_iff]
      unfold firstQ
      rw [Ne, Bool.or_eq_true, pL_left, pL_above]
      rintro (e | e)
      · have := left_cols hr nx (by omega) (by omega) hi hj e; omega
      · have := above_rows hr nx (by omega) (by omega) hi hj e; omega)
  · have hn := L.next i1 i2
    have b1 := (L.back (k := i) i2).2
    have b2 := (L.back (k := i - 1) (by omega)).2
    rw [ledP_nat h 0 b2 b1, ledP_nat h 1 b2 b1]
    unfold firstQ at hn
    rw [Bool.or_eq_true] at hn
    rcases hn with e | e
    · exact .inl e
    · refine .inr ⟨?_, e⟩
      exact (pL_over h b2 b1 e).2.1
/-- what the law of second orders asks -/
theorem second_math {p : List ByteArray} (h : plainB p = true) : (secondL p).length = gridR p ∧ (secondL p).Perm (List.range (gridR p)) ∧ (secondL p).getD 0 0 = gridG p (p.length - 1) 0 ∧ (secondL p).getD (gridR p - 1) 0 = gridG p 0 (wideB p - 1) := by
  have hp := plainB_plan h
  have hP := planP_of hp
  have hr := hP.rectG
  have nx := noX_of h
  have L := second_lin h
  have h1 := hP.grid.h1
  have w1 := hP.grid.w1
  have hlt : ∀ i j, i < p.length → j < wideB p → gridG p i j < gridR p := fun i j hi hj => gridG_lt hi hj
  unfold secondL
  rw [oR_yes h, oF_yes h]
  refine ⟨lineN_len _ _ _, L.perm, ?_, ?_⟩
  · exact L.least (hlt _ _ (by omega) (by omega)) (fun a ha => by
      obtain ⟨i, j, hi, hj, rfl⟩ := room_at ha
      rw [Bool.eq_false_iff]
      unfold secondQ
      rw [Ne, Bool.or_eq_true, pL_left, pL_above]
      rintro (e | e)
      · have := left_cols hr nx hi hj (by omega) (by omega) e; omega
      · have := above_rows hr nx (by omega) (by omega) hi hj e; omega)
  · exact L.last (hlt _ _ (by omega) (by omega)) (fun a ha => by
      obtain ⟨i, j, hi, hj, rfl⟩ := room_at ha
      rw [Bool.eq_false_iff]
      unfold secondQ
      rw [Ne, Bool.or_eq_true, pL_left, pL_above]
      rintro (e | e)
      · have := left_cols hr nx (by omega) (by omega) hi hj e; omega
      · have := above_rows hr nx hi hj (by omega) (by omega) e; omega)
end Go.Proofs.Ytjdlapcikpmdgaa
