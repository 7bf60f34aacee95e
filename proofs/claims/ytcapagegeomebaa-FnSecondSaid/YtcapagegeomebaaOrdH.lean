
/-
  What the laws of orders ask. (Plain mathematics.)
-/
import Derived.Test.YtcapagegeomebaaLon
namespace Go.Proofs.Ytcapagegeomebaa

/-- what a lead tells: a plain plan, two rooms -/
theorem ledP_parts {p : List ByteArray} {way : Nat} {a b : Int} (h : ledP p way a b = true) : plainB p = true ∧ ∃ m n : Nat, a = (m : Int) ∧ b = (n : Int) ∧ m < gridR p ∧ n < gridR p ∧ pL p way m n = true := by
  cases hp : plainB p
  · rw [ledP_no hp] at h; cases h
  · rw [ledP_yes hp, Bool.and_eq_true, Bool.and_eq_true, oRm_iff, oRm_iff] at h
    obtain ⟨⟨ha, hb⟩, hl⟩ := h
    exact ⟨rfl, a.toNat, b.toNat, by omega, by omega, by omega, by omega, hl⟩
theorem ledP_trans {p : List ByteArray} {way : Nat} (hw : way < 2) {a b c : Int} (h1 : ledP p way a b = true) (h2 : ledP p way b c = true) : ledP p way a c = true := by
  obtain ⟨hp, m, n, rfl, rfl, hm, hn, e1⟩ := ledP_parts h1
  obtain ⟨_, n', k, e, rfl, _, hk, e2⟩ := ledP_parts h2
  obtain rfl : n = n' := by omega
  rw [ledP_nat hp way hm hk]
  exact pL_trans hw e1 e2
theorem ledP_left {p : List ByteArray} {a b : Int} (h : ledP p 0 a b = true) : ledP p 0 b a = false ∧ ledP p 1 a b = false ∧ ledP p 1 b a = false ∧ planB p = true := by
  obtain ⟨hp, m, n, rfl, rfl, hm, hn, e1⟩ := ledP_parts h
  rw [ledP_nat hp 0 hn hm, ledP_nat hp 1 hm hn, ledP_nat hp 1 hn hm]
  have := pL_one hp hm hn e1
  exact ⟨this.1, this.2.1, this.2.2, plainB_plan hp⟩
theorem ledP_above {p : List ByteArray} {a b : Int} (h : ledP p 1 a b = true) : ledP p 1 b a = false ∧ ledP p 0 a b = false ∧ ledP p 0 b a = false ∧ planB p = true := by
  obtain ⟨hp, m, n, rfl, rfl, hm, hn, e1⟩ := ledP_parts h
  rw [ledP_nat hp 1 hn hm, ledP_nat hp 0 hm hn, ledP_nat hp 0 hn hm]
  have := pL_over hp hm hn e1
  exact ⟨this.1, this.2.1, this.2.2, plainB_plan hp⟩
theorem kind_above {p : List ByteArray} {a b : Int} (h : ledP p 1 a b = true) : kindV p a b = ⟨#[117]⟩ := by
  obtain ⟨_, h2, h3, _⟩ := ledP_above h
  unfold kindV
  rw [h, h2, h3]; rfl

/-- where a room begins -/
theorem room_corner {p : List ByteArray} (hp : planB p = true) {k : Nat} (hk : k < gridR p) : ∃ x y : Nat, x < p.length ∧ y < wideB p ∧ gridG p x y = k ∧ (roomV p (k : Int)).top = (x : Int) ∧ (roomV p (k : Int)).left = (y : Int) := by
  have hP := planP_of hp
  obtain ⟨x, _, hx⟩ := hP.boxes.2 k hk
  have hg : givenB p (k : Int) = true := by rw [given_oRm hp]; exact oRm_iff.2 ⟨by omega, by omega⟩
  have hx0 := hx
  obtain ⟨_, a1, a2, a3, a4, a5⟩ := hx0
  refine ⟨x.row, x.col, by omega, by omega, ?_, ?_, ?_⟩
  · rw [← hP.mark x.row x.col (by omega) (by omega)]
    exact (a5 x.row x.col (by omega) (by omega)).2 (by unfold InR; omega)
  · rw [roomV_yes hg, boxB_box hP hx]
  · rw [roomV_yes hg, boxB_box hP hx]
theorem left_place {p : List ByteArray} {a b : Int} (h : ledP p 0 a b = true) : (roomV p a).left < (roomV p b).left ∧ givenB p a = true ∧ givenB p b = true := by
  obtain ⟨hp, m, n, rfl, rfl, hm, hn, e1⟩ := ledP_parts h
  have hpl := plainB_plan hp
  obtain ⟨i, j, hi, hj, ea, _, la⟩ := room_corner hpl hm
  obtain ⟨x, y, hx, hy, eb, _, lb⟩ := room_corner hpl hn
  rw [pL_left, ← ea, ← eb] at e1
  have := left_cols (planP_of hpl).rectG (noX_of hp) hi hj hx hy e1
  rw [la, lb, given_oRm hpl, given_oRm hpl]
  exact ⟨by omega, oRm_iff.2 ⟨by omega, by omega⟩, oRm_iff.2 ⟨by omega, by omega⟩⟩
theorem above_place {p : List ByteArray} {a b : Int} (h : ledP p 1 a b = true) : (roomV p a).top < (roomV p b).top ∧ givenB p a = true ∧ givenB p b = true := by
  obtain ⟨hp, m, n, rfl, rfl, hm, hn, e1⟩ := ledP_parts h
  have hpl := plainB_plan hp
  obtain ⟨i, j, hi, hj, ea, la, _⟩ := room_corner hpl hm
  obtain ⟨x, y, hx, hy, eb, lb, _⟩ := room_corner hpl hn
  rw [pL_above, ← ea, ← eb] at e1
  have := above_rows (planP_of hpl).rectG (noX_of hp) hi hj hx hy e1
  rw [la, lb, given_oRm hpl, given_oRm hpl]
  exact ⟨by omega, oRm_iff.2 ⟨by omega, by omega⟩, oRm_iff.2 ⟨by omega, by omega⟩⟩

/-- what a kind tells -/
theorem kind_none {p : List ByteArray} {a b : Int} (h : kindB p a b = false) : kindV p a b = ⟨#[]⟩ := by
  unfold kindB kindK at h
  unfold kindV
  rw [Bool.or_eq_false_iff, Bool.or_eq_false_iff, Bool.or_eq_false_iff] at h
  rw [h.1.1.1, h.1.1.2, h.1.2, h.2]; rfl
theorem kind_cases {p : List ByteArray} {a b : Int} (h : kindB p a b = true) :
    (ledP p 0 a b = true ∧ ledP p 0 b a = false ∧ ledP p 1 a b = false ∧ ledP p 1 b a = false ∧ kindV p a b = ⟨#[108]⟩) ∨ (ledP p 0 a b = false ∧ ledP p 0 b a = true ∧ ledP p 1 a b = false ∧ ledP p 1 b a = false ∧ kindV p a b = ⟨#[114]⟩) ∨
    (ledP p 0 a b = false ∧ ledP p 0 b a = false ∧ ledP p 1 a b = true ∧ ledP p 1 b a = false ∧ kindV p a b = ⟨#[117]⟩) ∨ (ledP p 0 a b = false ∧ ledP p 0 b a = false ∧ ledP p 1 a b = false ∧ ledP p 1 b a = true ∧ kindV p a b = ⟨#[100]⟩) := by
  unfold kindB kindK at h
  unfold kindV
  rw [Bool.or_eq_true, Bool.or_eq_true, Bool.or_eq_true] at h
  rcases h with ((h | h) | h) | h
  · obtain ⟨h1, h2, h3, _⟩ := ledP_left h
    rw [h, h1, h2, h3]; exact .inl ⟨rfl, rfl, rfl, rfl, rfl⟩
  · obtain ⟨h1, h2, h3, _⟩ := ledP_left h
    rw [h, h1, h2, h3]; exact .inr (.inl ⟨rfl, rfl, rfl, rfl, rfl⟩)
  · obtain ⟨h1, h2, h3, _⟩ := ledP_above h
    rw [h, h1, h2, h3]; exact .inr (.inr (.inl ⟨rfl, rfl, rfl, rfl, rfl⟩))
  · obtain ⟨h1, h2, h3, _⟩ := ledP_above h
    rw [h, h1, h2, h3]; exact .inr (.inr (.inr ⟨rfl, rfl, rfl, rfl, rfl⟩))
theorem kind_places {p : List ByteArray} {a b : Int} (h : kindB p a b = true) :
    (kindV p a b = ⟨#[108]⟩ ∧ (roomV p a).left < (roomV p b).left ∧ givenB p a = true ∧ givenB p b = true) ∨ (kindV p a b = ⟨#[114]⟩ ∧ (roomV p b).left < (roomV p a).left ∧ givenB p a = true ∧ givenB p b = true) ∨
    (kindV p a b = ⟨#[117]⟩ ∧ (roomV p a).top < (roomV p b).top ∧ givenB p a = true ∧ givenB p b = true) ∨ (kindV p a b = ⟨#[100]⟩ ∧ (roomV p b).top < (roomV p a).top ∧ givenB p a = true ∧ givenB p b = true) := by
  rcases kind_cases h with ⟨e1, e2, e3, e4, e5⟩ | ⟨e1, e2, e3, e4, e5⟩ | ⟨e1, e2, e3, e4, e5⟩ | ⟨e1, e2, e3, e4, e5⟩
  · have := left_place e1; exact .inl ⟨e5, this⟩
  · have := left_place e2; exact .inr (.inl ⟨e5, this.1, this.2.2, this.2.1⟩)
  · have := above_place e3; exact .inr (.inr (.inl ⟨e5, this⟩))
  · have := above_place e4; exact .inr (.inr (.inr ⟨e5, this.1, this.2.2, this.2.1⟩))

/-- rows of rooms go on by columns, and by rows -/
theorem pth_cols {p : List ByteArray} (h : plainB p = true) : ∀ {n a b : Nat}, Pth (pL p 0) (gridR p) n a b → ∀ i j x y, i < p.length → j < wideB p → x < p.length → y < wideB p → gridG p i j = a → gridG p x y = b → n = 0 ∨ j + n ≤ y
  | 0, _, _, _ => fun _ _ _ _ _ _ _ _ _ _ => .inl rfl
  | n + 1, a, b, hp => fun i j x y hi hj hx hy ea eb => by
    obtain ⟨c, h1, h2, h3⟩ := hp
    obtain ⟨x', y', hx', hy', ec⟩ := room_at h1.lt.2
    have hr := (planP_of (plainB_plan h)).rectG
    rw [pL_left, ← ec, ← eb] at h2
    have hlt := left_cols hr (noX_of h) hx' hy' hx hy h2
    rcases pth_cols h h1 i j x' y' hi hj hx' hy' ea ec with h0 | h0
    · subst h0
      obtain ⟨rfl, _⟩ := h1
      rw [ec, ← ea] at h2
      have := left_cols hr (noX_of h) hi hj hx hy (by rw [ea]; rwa [ea] at h2)
      omega
    · omega
theorem pth_rows {p : List ByteArray} (h : plainB p = true) : ∀ {n a b : Nat}, Pth (pL p 1) (gridR p) n a b → ∀ i j x y, i < p.length → j < wideB p → x < p.length → y < wideB p → gridG p i j = a → gridG p x y = b → n = 0 ∨ i + n ≤ x
  | 0, _, _, _ => fun _ _ _ _ _ _ _ _ _ _ => .inl rfl
  | n + 1, a, b, hp => fun i j x y hi hj hx hy ea eb => by
    obtain ⟨c, h1, h2, h3⟩ := hp
    obtain ⟨x', y', hx', hy', ec⟩ := room_at h1.lt.2
    have hr := (planP_of (plainB_plan h)).rectG
    rw [pL_above, ← ec, ← eb] at h2
    have hlt := above_rows hr (noX_of h) hx' hy' hx hy h2
    rcases pth_rows h h1 i j x' y' hi hj hx' hy' ea ec with h0 | h0
    · subst h0
      obtain ⟨rfl, _⟩ := h1
      rw [ec, ← ea] at h2
      have := above_rows hr (noX_of h) hi hj hx hy (by rw [ea]; rwa [ea] at h2)
      omega
    · omega
/-- what the law of longest rows asks -/
theorem longRows_math {p : List ByteArray} (h : plainB p = true) : 1 ≤ longP p 0 ∧ 1 ≤ longP p 1 ∧ longP p 0 ≤ wideB p ∧ longP p 1 ≤ p.length ∧ gridR p ≤ longP p 0 * longP p 1 := by
  have hP := planP_of (plainB_plan h)
  have hr1 : 1 ≤ gridR p := by
    have h := gridG_lt (p := p) (i := 0) (j := 0) (by have := hP.grid.h1; omega) (by have := hP.grid.w1; omega)
    omega
  have G0 := pL_goes h (way := 0) (by omega)
  have G1 := pL_goes h (way := 1) (by omega)
  rw [longP_yes h, longP_yes h]
  have a0 : 1 ≤ lonQ (pL p 0) (firstQ (pL p)) (gridR p) := (G0.long (n := 0)).2 ⟨0, 0, rfl, by omega⟩
  have a1 : 1 ≤ lonQ (pL p 1) (firstQ (pL p)) (gridR p) := (G1.long (n := 0)).2 ⟨0, 0, rfl, by omega⟩
  refine ⟨a0, a1, ?_, ?_, ?_⟩
  · obtain ⟨a, b, hp⟩ := (G0.long (n := lonQ (pL p 0) (firstQ (pL p)) (gridR p) - 1)).1 (by omega)
    obtain ⟨i, j, hi, hj, ea⟩ := room_at hp.lt.1
    obtain ⟨x, y, hx, hy, eb⟩ := room_at hp.lt.2
    have := pth_cols h hp i j x y hi hj hx hy ea eb
    have := hP.grid.w1
    omega
  · obtain ⟨a, b, hp⟩ := (G1.long (n := lonQ (pL p 1) (firstQ (pL p)) (gridR p) - 1)).1 (by omega)
    obtain ⟨i, j, hi, hj, ea⟩ := room_at hp.lt.1
    obtain ⟨x, y, hx, hy, eb⟩ := room_at hp.lt.2
    have := pth_rows h hp i j x y hi hj hx hy ea eb
    have := hP.grid.h1
    omega
  · have up : ∀ {f : Nat → Nat → Bool} (_ : Goes f (firstQ (pL p)) (gridR p)) {b : Nat}, b < gridR p → hiM f (gridR p) b < lonQ f (firstQ (pL p)) (gridR p) := fun {f} G {b} hb => by
      obtain ⟨c, hc⟩ := (G.hi hb).1 (Nat.le_refl _)
      exact G.long.2 ⟨c, b, hc⟩
    have st : ∀ {f : Nat → Nat → Bool} (_ : Goes f (firstQ (pL p)) (gridR p)) {a b : Nat}, f a b = true → hiM f (gridR p) a < hiM f (gridR p) b := fun {f} G {a b} hf => by
      obtain ⟨ha, hb, _⟩ := G.imp _ _ hf
      obtain ⟨c, hc⟩ := (G.hi ha).1 (Nat.le_refl _)
      exact (G.hi hb).2 ⟨c, a, hc, hf, hb⟩
    generalize hx : lonQ (pL p 0) (firstQ (pL p)) (gridR p) = X at *
    generalize hy : lonQ (pL p 1) (firstQ (pL p)) (gridR p) = Y at *
    have hn : ((List.range (gridR p)).map fun b => hiM (pL p 0) (gridR p) b * Y + hiM (pL p 1) (gridR p) b).Nodup := by
      unfold List.Nodup
      rw [List.pairwise_map]
      refine List.Pairwise.imp_of_mem ?_ List.pairwise_lt_range
      intro a b ha hb hab e
      have ha := List.mem_range.1 ha
      have hb := List.mem_range.1 hb
      have u1 := up G1 ha
      have u2 := up G1 hb
      rw [hy] at u1 u2
      have key : hiM (pL p 0) (gridR p) a = hiM (pL p 0) (gridR p) b ∧ hiM (pL p 1) (gridR p) a = hiM (pL p 1) (gridR p) b := by
        have d1 : (hiM (pL p 0) (gridR p) a * Y + hiM (pL p 1) (gridR p) a) / Y = hiM (pL p 0) (gridR p) a := by
          rw [Nat.mul_comm, Nat.mul_add_div (by omega), Nat.div_eq_of_lt u1]; rfl
        have d2 : (hiM (pL p 0) (gridR p) b * Y + hiM (pL p 1) (gridR p) b) / Y = hiM (pL p 0) (gridR p) b := by
          rw [Nat.mul_comm, Nat.mul_add_div (by omega), Nat.div_eq_of_lt u2]; rfl
        have e0 : hiM (pL p 0) (gridR p) a = hiM (pL p 0) (gridR p) b := by rw [← d1, ← d2, e]
        refine ⟨e0, ?_⟩
        rw [e0] at e
        omega
      rcases pL_some (plainB_plan h) ha hb (by omega) with e1 | e1 | e1 | e1
      · have := st G0 e1; omega
      · have := st G0 e1; omega
      · have := st G1 e1; omega
      · have := st G1 e1; omega
    have := nodup_lt (X * Y) _ hn (fun z hz => by
      obtain ⟨b, hb, rfl⟩ := List.mem_map.1 hz
      have hb := List.mem_range.1 hb
      have u0 := up G0 hb
      have u1 := up G1 hb
      rw [hx] at u0
      rw [hy] at u1
      have : hiM (pL p 0) (gridR p) b * Y + Y ≤ X * Y := by
        rw [← Nat.succ_mul]; exact Nat.mul_le_mul_right _ u0
      omega)
    simpa using this
end Go.Proofs.Ytcapagegeomebaa
