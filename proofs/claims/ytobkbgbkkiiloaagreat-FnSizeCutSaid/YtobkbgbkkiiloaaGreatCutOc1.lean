/-
  Plans that are cut and their orders: rooms ahead of an upright cut are left of those behind it, rooms ahead of a level one above them. (Plain mathematics.)
-/
import Derived.Test.YtobkbgbkkiiloaaGreatOrdPXc1
import Derived.Test.YtobkbgbkkiiloaaGreatGui3c1

namespace Go.Proofs.YtobkbgbkkiiloaaGreat

/-- a room with a cell in a rectangle -/
def Rc.In (R : Rc) (g : Nat → Nat → Nat) (a : Nat) : Prop := ∃ i j, R.has i j ∧ g i j = a
/-- a rectangle in which all stays that lies between two of its rooms -/
def Rc.Conv (R : Rc) (h wd : Nat) (g : Nat → Nat → Nat) : Prop :=
  ∀ a b x, R.In g a → R.In g b → (∃ i j, i < h ∧ j < wd ∧ g i j = x) → (LL h wd g a x ∧ LL h wd g x b ∨ AA h wd g a x ∧ AA h wd g x b) → R.In g x
theorem Rc.Clo.cell {R : Rc} {g : Nat → Nat → Nat} {h wd : Nat} (C : R.Clo g h wd) {a i j : Nat} (ha : R.In g a) (hi : i < h) (hj : j < wd) (e : g i j = a) : R.has i j := by
  obtain ⟨x, y, hxy, rfl⟩ := ha
  exact C.clo x y i j hxy hi hj e
theorem in_left {R : Rc} {g : Nat → Nat → Nat} {h wd : Nat} (hr : RectG h wd g) (C : R.Clo g h wd) {c : Nat × Nat} (hi : R.ins c = true) (hf : R.free g c = true) {i j : Nat} (hij : R.has i j) : (R.left c).In g (g i j) ↔ (if c.1 = 0 then j else i) < c.2 := by
  constructor
  · rintro ⟨x, y, hxy, e⟩
    rcases Nat.lt_or_ge (if c.1 = 0 then j else i) c.2 with h1 | h1
    · exact h1
    · exact absurd e.symm (free_two hr C hi hf hxy ((Rc.right_has hi).2 ⟨hij, h1⟩))
  · intro h1
    exact ⟨i, j, (Rc.left_has hi).2 ⟨hij, h1⟩, rfl⟩
theorem in_right {R : Rc} {g : Nat → Nat → Nat} {h wd : Nat} (hr : RectG h wd g) (C : R.Clo g h wd) {c : Nat × Nat} (hi : R.ins c = true) (hf : R.free g c = true) {i j : Nat} (hij : R.has i j) : (R.right c).In g (g i j) ↔ c.2 ≤ (if c.1 = 0 then j else i) := by
  constructor
  · rintro ⟨x, y, hxy, e⟩
    rcases Nat.lt_or_ge (if c.1 = 0 then j else i) c.2 with h1 | h1
    · exact absurd e (free_two hr C hi hf ((Rc.left_has hi).2 ⟨hij, h1⟩) hxy)
    · exact h1
  · intro h1
    exact ⟨i, j, (Rc.right_has hi).2 ⟨hij, h1⟩, rfl⟩
theorem Rc.left_in {R : Rc} {g : Nat → Nat → Nat} {c : Nat × Nat} (hi : R.ins c = true) {a : Nat} (ha : (R.left c).In g a) : R.In g a := by
  obtain ⟨i, j, hij, e⟩ := ha
  exact ⟨i, j, ((Rc.left_has hi).1 hij).1, e⟩
theorem Rc.right_in {R : Rc} {g : Nat → Nat → Nat} {c : Nat × Nat} (hi : R.ins c = true) {a : Nat} (ha : (R.right c).In g a) : R.In g a := by
  obtain ⟨i, j, hij, e⟩ := ha
  exact ⟨i, j, ((Rc.right_has hi).1 hij).1, e⟩
theorem Rc.in_cell {R : Rc} {g : Nat → Nat → Nat} {h wd : Nat} (C : R.Clo g h wd) {a : Nat} (ha : R.In g a) : ∃ i j, i < h ∧ j < wd ∧ g i j = a := by
  obtain ⟨i, j, hij, e⟩ := ha
  obtain ⟨h1, h2⟩ := C.in_grid hij
  exact ⟨i, j, h1, h2, e⟩

/-- orders along upright lines stay on their side of upright cuts -/
theorem step_up {R : Rc} {g : Nat → Nat → Nat} {h wd : Nat} (hr : RectG h wd g) (nx : NoX h wd g) (C : R.Clo g h wd) {c : Nat × Nat} (h0 : c.1 = 0) (hi : R.ins c = true) (hf : R.free g c = true) {z y : Nat} (hz : R.In g z) (hy : R.In g y) (hj : JA h wd g z y) : (R.left c).In g z ↔ (R.left c).In g y := by
  obtain ⟨k, s, t, k1, kh, hs, ht, hall, rfl, rfl⟩ := hj
  have cz := C.cell hz (i := k - 1) (j := s) (by omega) (by omega) rfl
  have cy := C.cell hy (i := k) (j := t) (by omega) (by omega) rfl
  rw [in_left hr C hi hf cz, in_left hr C hi hf cy, if_pos h0, if_pos h0]
  rw [Rc.free_up h0] at hf
  rw [Rc.ins_up h0] at hi
  obtain ⟨z1, z2, z3, z4⟩ := cz
  obtain ⟨y1, y2, y3, y4⟩ := cy
  constructor
  · intro hlt
    apply Classical.byContradiction
    intro hn
    exact nx k c.2 (by omega) (by omega) (by omega) (by omega) ⟨hf (k - 1) (by omega) (by omega), hf k (by omega) (by omega), hall (c.2 - 1) (by omega), hall c.2 (by omega)⟩
  · intro hlt
    apply Classical.byContradiction
    intro hn
    exact nx k c.2 (by omega) (by omega) (by omega) (by omega) ⟨hf (k - 1) (by omega) (by omega), hf k (by omega) (by omega), hall (c.2 - 1) (by omega), hall c.2 (by omega)⟩
theorem side_up {R : Rc} {g : Nat → Nat → Nat} {h wd : Nat} (hr : RectG h wd g) (nx : NoX h wd g) (C : R.Clo g h wd) (V : R.Conv h wd g) {c : Nat × Nat} (h0 : c.1 = 0) (hi : R.ins c = true) (hf : R.free g c = true) {a b : Nat} (ha : R.In g a) (hab : AA h wd g a b) : R.In g b → ((R.left c).In g a ↔ (R.left c).In g b) := by
  induction hab with
  | single hj => exact fun hb => step_up hr nx C h0 hi hf ha hb hj
  | @tail x y h1 hj ih =>
    intro hb
    have hx : R.In g x := V _ _ x ha hb (by obtain ⟨k, s, t, k1, kh, hs, ht, _, e, _⟩ := hj; exact ⟨k - 1, s, by omega, hs, e⟩) (.inr ⟨h1, .single hj⟩)
    rw [ih hx]
    exact step_up hr nx C h0 hi hf hx hb hj
theorem conv_left_up {R : Rc} {g : Nat → Nat → Nat} {h wd : Nat} (hr : RectG h wd g) (nx : NoX h wd g) (C : R.Clo g h wd) (V : R.Conv h wd g) {c : Nat × Nat} (h0 : c.1 = 0) (hi : R.ins c = true) (hf : R.free g c = true) : (R.left c).Conv h wd g ∧ (R.right c).Conv h wd g := by
  constructor
  · intro a b x ha hb hx hl
    have xin := V a b x (Rc.left_in hi ha) (Rc.left_in hi hb) hx hl
    obtain ⟨i, j, hij, rfl⟩ := xin
    obtain ⟨g1, g2⟩ := C.in_grid hij
    rcases hl with ⟨l1, l2⟩ | ⟨l1, l2⟩
    · -- along the way of the cut: by places
      obtain ⟨x, y, hxy, rfl⟩ := hb
      have hxy2 := (Rc.left_has hi).1 hxy
      obtain ⟨b1, b2⟩ := C.in_grid hxy2.1
      have := left_cols hr nx g1 g2 b1 b2 l2
      rw [in_left hr C hi hf hij, if_pos h0]
      have := hxy2.2
      rw [if_pos h0] at this
      omega
    · -- across it: on one side
      exact (side_up hr nx C V h0 hi hf (Rc.left_in hi ha) l1 ⟨i, j, hij, rfl⟩).1 ha
  · intro a b x ha hb hx hl
    have xin := V a b x (Rc.right_in hi ha) (Rc.right_in hi hb) hx hl
    obtain ⟨i, j, hij, rfl⟩ := xin
    obtain ⟨g1, g2⟩ := C.in_grid hij
    rcases hl with ⟨l1, l2⟩ | ⟨l1, l2⟩
    · obtain ⟨x, y, hxy, rfl⟩ := ha
      have hxy2 := (Rc.right_has hi).1 hxy
      obtain ⟨b1, b2⟩ := C.in_grid hxy2.1
      have := left_cols hr nx b1 b2 g1 g2 l1
      rw [in_right hr C hi hf hij, if_pos h0]
      have := hxy2.2
      rw [if_pos h0] at this
      omega
    · have e := side_up hr nx C V h0 hi hf (Rc.right_in hi ha) l1 ⟨i, j, hij, rfl⟩
      obtain ⟨x, y, hxy, rfl⟩ := ha
      have hxy2 := (Rc.right_has hi).1 hxy
      rw [in_right hr C hi hf hij]
      rw [in_left hr C hi hf hij, in_left hr C hi hf hxy2.1] at e
      have := hxy2.2
      omega

/-- orders along level lines stay on their side of level cuts -/
theorem step_lv {R : Rc} {g : Nat → Nat → Nat} {h wd : Nat} (hr : RectG h wd g) (nx : NoX h wd g) (C : R.Clo g h wd) {c : Nat × Nat} (h0 : ¬ c.1 = 0) (hi : R.ins c = true) (hf : R.free g c = true) {z y : Nat} (hz : R.In g z) (hy : R.In g y) (hj : JL h wd g z y) : (R.left c).In g z ↔ (R.left c).In g y := by
  obtain ⟨k, s, t, k1, kh, hs, ht, hall, rfl, rfl⟩ := hj
  have cz := C.cell hz (i := s) (j := k - 1) (by omega) (by omega) rfl
  have cy := C.cell hy (i := t) (j := k) (by omega) (by omega) rfl
  rw [in_left hr C hi hf cz, in_left hr C hi hf cy, if_neg h0, if_neg h0]
  rw [Rc.free_lv h0] at hf
  rw [Rc.ins_lv h0] at hi
  obtain ⟨z1, z2, z3, z4⟩ := cz
  obtain ⟨y1, y2, y3, y4⟩ := cy
  constructor
  · intro hlt
    apply Classical.byContradiction
    intro hn
    exact nx c.2 k (by omega) (by omega) (by omega) (by omega) ⟨hall (c.2 - 1) (by omega), hall c.2 (by omega), hf (k - 1) (by omega) (by omega), hf k (by omega) (by omega)⟩
  · intro hlt
    apply Classical.byContradiction
    intro hn
    exact nx c.2 k (by omega) (by omega) (by omega) (by omega) ⟨hall (c.2 - 1) (by omega), hall c.2 (by omega), hf (k - 1) (by omega) (by omega), hf k (by omega) (by omega)⟩
theorem side_lv {R : Rc} {g : Nat → Nat → Nat} {h wd : Nat} (hr : RectG h wd g) (nx : NoX h wd g) (C : R.Clo g h wd) (V : R.Conv h wd g) {c : Nat × Nat} (h0 : ¬ c.1 = 0) (hi : R.ins c = true) (hf : R.free g c = true) {a b : Nat} (ha : R.In g a) (hab : LL h wd g a b) : R.In g b → ((R.left c).In g a ↔ (R.left c).In g b) := by
  induction hab with
  | single hj => exact fun hb => step_lv hr nx C h0 hi hf ha hb hj
  | @tail x y h1 hj ih =>
    intro hb
    have hx : R.In g x := V _ _ x ha hb (by obtain ⟨k, s, t, k1, kh, hs, ht, _, e, _⟩ := hj; exact ⟨s, k - 1, hs, by omega, e⟩) (.inl ⟨h1, .single hj⟩)
    rw [ih hx]
    exact step_lv hr nx C h0 hi hf hx hb hj
theorem conv_left_lv {R : Rc} {g : Nat → Nat → Nat} {h wd : Nat} (hr : RectG h wd g) (nx : NoX h wd g) (C : R.Clo g h wd) (V : R.Conv h wd g) {c : Nat × Nat} (h0 : ¬ c.1 = 0) (hi : R.ins c = true) (hf : R.free g c = true) : (R.left c).Conv h wd g ∧ (R.right c).Conv h wd g := by
  constructor
  · intro a b x ha hb hx hl
    have xin := V a b x (Rc.left_in hi ha) (Rc.left_in hi hb) hx hl
    obtain ⟨i, j, hij, rfl⟩ := xin
    obtain ⟨g1, g2⟩ := C.in_grid hij
    rcases hl with ⟨l1, l2⟩ | ⟨l1, l2⟩
    · -- across it: on one side
      exact (side_lv hr nx C V h0 hi hf (Rc.left_in hi ha) l1 ⟨i, j, hij, rfl⟩).1 ha
    · -- along the way of the cut: by places
      obtain ⟨x, y, hxy, rfl⟩ := hb
      have hxy2 := (Rc.left_has hi).1 hxy
      obtain ⟨b1, b2⟩ := C.in_grid hxy2.1
      have := above_rows hr nx g1 g2 b1 b2 l2
      rw [in_left hr C hi hf hij, if_neg h0]
      have := hxy2.2
      rw [if_neg h0] at this
      omega
  · intro a b x ha hb hx hl
    have xin := V a b x (Rc.right_in hi ha) (Rc.right_in hi hb) hx hl
    obtain ⟨i, j, hij, rfl⟩ := xin
    obtain ⟨g1, g2⟩ := C.in_grid hij
    rcases hl with ⟨l1, l2⟩ | ⟨l1, l2⟩
    · have e := side_lv hr nx C V h0 hi hf (Rc.right_in hi ha) l1 ⟨i, j, hij, rfl⟩
      obtain ⟨x, y, hxy, rfl⟩ := ha
      have hxy2 := (Rc.right_has hi).1 hxy
      rw [in_right hr C hi hf hij]
      rw [in_left hr C hi hf hij, in_left hr C hi hf hxy2.1] at e
      have := hxy2.2
      omega
    · obtain ⟨x, y, hxy, rfl⟩ := ha
      have hxy2 := (Rc.right_has hi).1 hxy
      obtain ⟨b1, b2⟩ := C.in_grid hxy2.1
      have := above_rows hr nx b1 b2 g1 g2 l1
      rw [in_right hr C hi hf hij, if_neg h0]
      have := hxy2.2
      rw [if_neg h0] at this
      omega

theorem Rc.Conv.parts {R : Rc} {g : Nat → Nat → Nat} {h wd : Nat} (hr : RectG h wd g) (nx : NoX h wd g) (C : R.Clo g h wd) (V : R.Conv h wd g) {c : Nat × Nat} (hi : R.ins c = true) (hf : R.free g c = true) : (R.left c).Conv h wd g ∧ (R.right c).Conv h wd g := by
  by_cases h0 : c.1 = 0
  · exact conv_left_up hr nx C V h0 hi hf
  · exact conv_left_lv hr nx C V h0 hi hf
/-- the rooms of both sides of a cut -/
theorem cut_orders {R : Rc} {g : Nat → Nat → Nat} {h wd : Nat} (hr : RectG h wd g) (nx : NoX h wd g) (hsome : ∀ a b, (∃ i j, i < h ∧ j < wd ∧ g i j = a) → (∃ i j, i < h ∧ j < wd ∧ g i j = b) → a ≠ b → LL h wd g a b ∨ LL h wd g b a ∨ AA h wd g a b ∨ AA h wd g b a)
    (C : R.Clo g h wd) (V : R.Conv h wd g) {c : Nat × Nat} (hi : R.ins c = true) (hf : R.free g c = true) {a b : Nat} (ha : (R.left c).In g a) (hb : (R.right c).In g b) : if c.1 = 0 then LL h wd g a b else AA h wd g a b := by
  have ia := Rc.left_in hi ha
  have ib := Rc.right_in hi hb
  obtain ⟨i, j, hij, rfl⟩ := ha
  obtain ⟨x, y, hxy, rfl⟩ := hb
  have hij2 := (Rc.left_has hi).1 hij
  have hxy2 := (Rc.right_has hi).1 hxy
  obtain ⟨a1, a2⟩ := C.in_grid hij2.1
  obtain ⟨b1, b2⟩ := C.in_grid hxy2.1
  have hne : g i j ≠ g x y := fun e => free_two hr C hi hf hij hxy e.symm
  have la : (R.left c).In g (g i j) := ⟨i, j, hij, rfl⟩
  have lb : ¬ (R.left c).In g (g x y) := by
    rw [in_left hr C hi hf hxy2.1]; have := hxy2.2; omega
  by_cases h0 : c.1 = 0
  · rw [if_pos h0]
    have p1 := hij2.2; have p2 := hxy2.2
    rw [if_pos h0] at p1 p2
    rcases hsome _ _ ⟨i, j, a1, a2, rfl⟩ ⟨x, y, b1, b2, rfl⟩ hne with k | k | k | k
    · exact k
    · have := left_cols hr nx b1 b2 a1 a2 k; omega
    · exact absurd ((side_up hr nx C V h0 hi hf ia k ib).1 la) lb
    · exact absurd ((side_up hr nx C V h0 hi hf ib k ia).2 la) lb
  · rw [if_neg h0]
    have p1 := hij2.2; have p2 := hxy2.2
    rw [if_neg h0] at p1 p2
    rcases hsome _ _ ⟨i, j, a1, a2, rfl⟩ ⟨x, y, b1, b2, rfl⟩ hne with k | k | k | k
    · exact absurd ((side_lv hr nx C V h0 hi hf ia k ib).1 la) lb
    · exact absurd ((side_lv hr nx C V h0 hi hf ib k ia).2 la) lb
    · exact k
    · have := above_rows hr nx b1 b2 a1 a2 k; omega
end Go.Proofs.YtobkbgbkkiiloaaGreat
